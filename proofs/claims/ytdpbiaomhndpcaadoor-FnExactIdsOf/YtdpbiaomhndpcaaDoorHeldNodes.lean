/-
  The laws' marks in trees: found again.
-/
import Derived.Test.YtdpbiaomhndpcaaDoorMarkNodes
namespace Go.Proofs.YtdpbiaomhndpcaaDoor.trees
open Go.ChangeShapes Go.WideShapes Go.ChangeAt Go.RowKit
open pairs (Pair at0 PairsAt marksL marks_len)
open marks (markT)
set_option linter.unusedVariables false
set_option maxRecDepth 100000 in
set_option maxHeartbeats 8000000 in
theorem held_rowA (w : World) (g n cap k : Nat) (cur : Array Value) (ty : TypeId) (hn : n ≤ 4000000) (hk : k ≤ 100000000) (hM : AtM w g n k n cur ty) :
    Calls Tryd.prog 16 #[.slice (some ⟨g, 0, none⟩) n cap, .int .i64 k] w fun e w' => e = .returned (.int .i64 ((k + 4 * n : Nat) : Int)) ∧ Below w.heap.size w w' := by
  have HM : Hid _ := hM
  clear hM
  go_enter Tryd.func16, Tryd.ntmps16
  go_wp2
  go_loopw [1, 5] (fun q t wr => ∃ i : Nat, i ≤ n ∧ t = .int .i64 i ∧ q = .int .i64 ((k + 4 * i : Nat) : Int) ∧ Hid (Below w.heap.size w wr)) (fun _ t _ => n - (intOf t).toNat)
  case atStart => exact ⟨0, Nat.zero_le _, rfl, rfl, Below.refl _ _⟩
  case round =>
    obtain ⟨i, hi, rfl, rfl, hbw⟩ := hrel
    by_cases hlt : i < n
    · obtain ⟨a0, a1, a2, a3⟩ := (HM.out.below hbw.out).done i hlt
      have hg := (HM.out.below hbw.out).blk
      obtain ⟨N0, hN0⟩ : ∃ N0, k + 4 * i = N0 := ⟨_, rfl⟩
      have HN0 : Hid (k + 4 * i = N0) := hN0
      rw [hN0] at a0 a1 a2 a3 ⊢
      have hNb : N0 ≤ 200000000 := by omega
      have l0 : ∀ W, Below wr.heap.size wr W → W.cell? ⟨g, i * 4, none⟩ = some (.string (markT N0)) := fun W h => (h.cell (p := ⟨g, i * 4, none⟩) (pairs.lt_heap hg)).trans (by simp [World.cell?, hg, a0])
      have l1 : ∀ W, Below wr.heap.size wr W → W.cell? ⟨g, i * 4 + 1, none⟩ = some (.string (markT (N0 + 1))) := fun W h => (h.cell (p := ⟨g, i * 4 + 1, none⟩) (pairs.lt_heap hg)).trans (by simp [World.cell?, hg, a1])
      have l2 : ∀ W, Below wr.heap.size wr W → W.cell? ⟨g, i * 4 + 2, none⟩ = some (.string (markT (N0 + 2))) := fun W h => (h.cell (p := ⟨g, i * 4 + 2, none⟩) (pairs.lt_heap hg)).trans (by simp [World.cell?, hg, a2])
      have l3 : ∀ W, Below wr.heap.size wr W → W.cell? ⟨g, i * 4 + 3, none⟩ = some (.string (markT (N0 + 3))) := fun W h => (h.cell (p := ⟨g, i * 4 + 3, none⟩) (pairs.lt_heap hg)).trans (by simp [World.cell?, hg, a3])
      have L1 : Hid (∀ W, Below wr.heap.size wr W → _) := l1
      have L2 : Hid (∀ W, Below wr.heap.size wr W → _) := l2
      have L3 : Hid (∀ W, Below wr.heap.size wr W → _) := l3
      have m0 := fun W => mark_n N0 (N0 : Int) rfl (by omega) W
      clear hg a0 a1 a2 a3 hN0 l1 l2 l3
      go_wp2_with fail
      refine quiets.wp_region_below (by kernel_rfl) (by kernel_rfl) ?_
      repeat (go_big_quiet_step ((first | (intro hq; rfl) | (intro hq; simp [go_sem, l0 _ hq]; rfl) | (intro hq; simp [go_sem]; try rfl) | (intro hq; exact quiets.below_call (m0 _) hq))))
      refine wpQuiet_nil ?_
      intro w2 hb2
      have HB2 : Hid (Below wr.heap.size wr w2) := hb2
      have l1 : ∀ W, Below w2.heap.size w2 W → W.cell? ⟨g, i * 4 + 1, none⟩ = some (.string (markT (N0 + 1))) := fun W h => L1.out W (HB2.out.trans (h.mono HB2.out.size))
      have m1 := fun W => mark_n (N0 + 1) ((N0 : Int) + 1) (by omega) (by omega) W
      clear hb2 l0 m0
      go_wp2_with fail
      refine quiets.wp_region_below (by kernel_rfl) (by kernel_rfl) ?_
      repeat (go_big_quiet_step ((first | (intro hq; rfl) | (intro hq; simp [go_sem, l1 _ hq]; rfl) | (intro hq; simp [go_sem]; try rfl) | (intro hq; exact quiets.below_call (m1 _) hq))))
      refine wpQuiet_nil ?_
      intro w3 hb3
      have HB3 : Hid (Below wr.heap.size wr w3) := HB2.out.trans (hb3.mono HB2.out.size)
      have l2 : ∀ W, Below w3.heap.size w3 W → W.cell? ⟨g, i * 4 + 2, none⟩ = some (.string (markT (N0 + 2))) := fun W h => L2.out W (HB3.out.trans (h.mono HB3.out.size))
      have m2 := fun W => mark_n (N0 + 2) ((N0 : Int) + 1 + 1) (by omega) (by omega) W
      clear hb3 l1 m1
      go_wp2_with fail
      refine quiets.wp_region_below (by kernel_rfl) (by kernel_rfl) ?_
      repeat (go_big_quiet_step ((first | (intro hq; rfl) | (intro hq; simp [go_sem, l2 _ hq]; rfl) | (intro hq; simp [go_sem]; try rfl) | (intro hq; exact quiets.below_call (m2 _) hq))))
      refine wpQuiet_nil ?_
      intro w4 hb4
      have HB4 : Hid (Below wr.heap.size wr w4) := HB3.out.trans (hb4.mono HB3.out.size)
      have l3 : ∀ W, Below w4.heap.size w4 W → W.cell? ⟨g, i * 4 + 3, none⟩ = some (.string (markT (N0 + 3))) := fun W h => L3.out W (HB4.out.trans (h.mono HB4.out.size))
      have m3 := fun W => mark_n (N0 + 3) ((N0 : Int) + 1 + 1 + 1) (by omega) (by omega) W
      clear hb4 l2 m2
      go_wp2_with fail
      refine quiets.wp_region_below (by kernel_rfl) (by kernel_rfl) ?_
      repeat (go_big_quiet_step ((first | (intro hq; rfl) | (intro hq; simp [go_sem, l3 _ hq]; rfl) | (intro hq; simp [go_sem]; try rfl) | (intro hq; exact quiets.below_call (m3 _) hq))))
      refine wpQuiet_nil ?_
      intro w5 hb5
      have HB5 : Hid (Below w.heap.size w w5) := hbw.out.trans ((HB4.out.trans (hb5.mono HB4.out.size)).mono hbw.out.size)
      have HST : Hid (k + 4 * (i + 1) = N0 + 4) := by have := HN0.out; show _ = _; omega
      clear hb5 l3 m3
      go_wp2
      go_roundw
      case rel => exact ⟨i + 1, by omega, by go_num, (by rw [HST.out]; congr 1), HB5.out⟩
      case measure => simp [intOf]; omega
    · obtain rfl : i = n := by omega
      go_wp2
      go_ret
      exact ⟨rfl, hbw.out⟩
set_option maxRecDepth 100000 in
theorem held_empA (a : Option Addr) (cap k : Nat) (w : World) : Calls Tryd.prog 16 #[.slice a 0 cap, .int .i64 k] w fun e w' => e = .returned (.int .i64 k) ∧ Below w.heap.size w w' := by
  go_enter Tryd.func16, Tryd.ntmps16
  go_wp2
  go_loop [1, 5] (fun q t => q = .int .i64 (k : Int) ∧ t = .int .i64 0) (fun _ _ => 0)
  case atStart => exact ⟨rfl, rfl⟩
  case round =>
    obtain ⟨rfl, rfl⟩ := hrel
    go_wp2
    go_ret
    exact ⟨rfl, Below.refl _ _⟩
theorem held_ownA (w : World) (a : Option Addr) (n cap k : Nat) (F : Bset) (hn : n ≤ 4000000) (hk : k ≤ 100000000) (hL : OwnA w a (marksA k n) F) :
    Calls Tryd.prog 16 #[.slice a n cap, .int .i64 k] w fun e w' => e = .returned (.int .i64 ((k + 4 * n : Nat) : Int)) ∧ Below w.heap.size w w' := by
  by_cases h0 : 0 < n
  · obtain ⟨g, rfl, hg, cur, ty, h1, h2, h3⟩ := hL (by rw [marksA_len]; exact h0)
    rw [marksA_len] at h2 h3
    exact held_rowA w g n cap k cur ty hn hk ⟨h1, h2, fun j hj => by have := h3 j hj; rw [marksA_at _ _ _ hj] at this; exact this⟩
  · obtain rfl : n = 0 := by omega
    exact held_empA a cap k w
end Go.Proofs.YtdpbiaomhndpcaaDoor.trees
