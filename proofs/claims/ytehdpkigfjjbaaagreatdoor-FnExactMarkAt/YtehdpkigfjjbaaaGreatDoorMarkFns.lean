/-
  The laws' own helpers on marks: whether two are the same, a mark laid in one, and found again.
-/
import Derived.Test.YtehdpkigfjjbaaaGreatDoorSpecMark
import Derived.Test.YtehdpkigfjjbaaaGreatDoorPairRaw
import Derived.Test.YtehdpkigfjjbaaaGreatDoorPairMarksRaw
namespace Go.Proofs.YtehdpkigfjjbaaaGreatDoor.cuts
open Go.ChangeShapes Go.WideShapes Go.ChangeAt Go.RowKit
open pairs (Pair at0 PairsAt marksL)
open trees (Rng Out Bset)
set_option linter.unusedVariables false
theorem own_at {w : World} {ad : Option Addr} {R : List Pair} {F : Bset} (h : trees.OwnP w ad R F) (hR : RFit R) (hl : R.length ≤ 1048576) : PairsAt w ad R := trees.OwnP.at h ⟨by unfold maxLen; omega, hR.texts⟩
set_option maxRecDepth 100000 in
set_option maxHeartbeats 4000000 in
theorem eq_mk (m : MarkV) (a a' : Option Addr) (c c' : Nat) (w : World) (hP : PairsAt w a m.raws) (hP' : PairsAt w a' m.raws) : Calls Tryz.prog 8 #[mkV m a c, mkV m a' c'] w fun e w' => e = .returned (.bool true) ∧ Below w.heap.size w w' := by
  obtain ⟨k, n, R, b, x⟩ := m
  unfold mkV
  have HP : Hid (PairsAt w a R) := hP
  have HP' : Hid (PairsAt w a' R) := hP'
  have HB2 : Hid (∀ o o', Below w.heap.size w ((w.alloc o).alloc o')) := fun o o' => ((Below.refl _ _).alloc (Nat.le_refl _) o).alloc (by simp) o'
  clear hP hP'
  simp only
  go_enter Tryz.func8, Tryz.ntmps8
  go_wp2_with fail
  refine (pairs.eq_RawS _ a a' R c c' (HP.out.below (Nat.le_refl _) (HB2.out _ _)) (HP'.out.below (Nat.le_refl _) (HB2.out _ _))).mono ?_
  rintro e w1 ⟨rfl, hb⟩
  have HB1 : Hid (Below w.heap.size w w1) := (HB2.out _ _).trans (hb.mono (HB2.out _ _).size)
  have h1 := (hb.block _ (by simp; omega)).trans ((Below.heap_alloc _ _ _ (by simp)).trans (heap_alloc_new w (.cells #[.int .i64 k, .string n, .slice a R.length c, .bool b, .string x] 26)))
  have h2 := (hb.block _ (by simp)).trans (heap_alloc_new (w.alloc (.cells #[.int .i64 k, .string n, .slice a R.length c, .bool b, .string x] 26)) (.cells #[.int .i64 k, .string n, .slice a' R.length c', .bool b, .string x] 26))
  rw [World.size_alloc] at h2
  obtain ⟨⟨o0, o1, o2, o3, o4⟩, -⟩ := box5 h1
  obtain ⟨⟨p0, p1, p2, p3, p4⟩, -⟩ := box5 h2
  clear hb h1 h2
  go_wp2
  go_ret
  exact ⟨rfl, HB1.out⟩
set_option maxRecDepth 100000 in
theorem mark_zero (ad : Option Addr) (c k : Nat) (w : World) : Calls Tryz.prog 25 #[.slice ad 0 c, .int .i64 k] w fun e w' => e = .returned (.int .i64 k) ∧ Below w.heap.size w w' := by
  go_enter Tryz.func25, Tryz.ntmps25
  go_wp2
  go_loop [1, 5] (fun q t => q = .int .i64 (k : Int) ∧ t = .int .i64 0) (fun _ _ => 0)
  case atStart => exact ⟨rfl, rfl⟩
  case round =>
    obtain ⟨rfl, rfl⟩ := hrel
    go_wp2
    go_ret
    exact ⟨rfl, Below.refl _ _⟩
set_option maxRecDepth 100000 in
theorem held_zero (ad : Option Addr) (c k : Nat) (w : World) : Calls Tryz.prog 26 #[.slice ad 0 c, .int .i64 k] w fun e w' => e = .returned (.int .i64 k) ∧ Below w.heap.size w w' := by
  go_enter Tryz.func26, Tryz.ntmps26
  go_wp2
  go_loop [1, 5] (fun q t => q = .int .i64 (k : Int) ∧ t = .int .i64 0) (fun _ _ => 0)
  case atStart => exact ⟨rfl, rfl⟩
  case round =>
    obtain ⟨rfl, rfl⟩ := hrel
    go_wp2
    go_ret
    exact ⟨rfl, Below.refl _ _⟩
/-- The laws' marks in an owned row. -/
theorem mark_rows (w : World) (ad : Option Addr) (R : List Pair) (c k : Nat) (F : Bset) (hl : R.length ≤ 1048576) (hk : k ≤ 100000000) (h : trees.OwnP w ad R F) : Calls Tryz.prog 25 #[.slice ad R.length c, .int .i64 k] w fun e w' => e = .returned (.int .i64 ((k + 2 * R.length : Nat) : Int)) ∧ trees.OwnP w' ad (marksL k R.length) F ∧ Out F w w' := by
  by_cases h0 : 0 < R.length
  · obtain ⟨g, rfl, hF, hm⟩ := h h0
    refine (pairs.mark_RawS w g R.length c k (by omega) hk (hm.forget (pairs.marks_len _ _))).mono ?_
    rintro e w' ⟨he, hm', hg⟩
    exact ⟨he, fun _ => ⟨g, rfl, hF, by rw [pairs.marks_len]; exact hm'⟩, Out.grown hg hF⟩
  · have hz : R.length = 0 := by omega
    rw [hz]
    refine (mark_zero ad c k w).mono ?_
    rintro e w' ⟨he, hb⟩
    exact ⟨he, fun h => absurd h (by rw [pairs.marks_len]; exact Nat.lt_irrefl _), Out.of_below hb⟩
theorem held_rows (w : World) (ad : Option Addr) (n c k : Nat) (F : Bset) (hl : n ≤ 1048576) (hk : k ≤ 100000000) (h : trees.OwnP w ad (marksL k n) F) : Calls Tryz.prog 26 #[.slice ad n c, .int .i64 k] w fun e w' => e = .returned (.int .i64 ((k + 2 * n : Nat) : Int)) ∧ Below w.heap.size w w' := by
  by_cases h0 : 0 < n
  · obtain ⟨g, rfl, hF, hm⟩ := h (by rw [pairs.marks_len]; exact h0)
    rw [pairs.marks_len] at hm
    exact pairs.held_RawS w g n c k (by omega) hk hm
  · obtain rfl : n = 0 := by omega
    exact held_zero ad c k w
set_option maxRecDepth 100000 in
set_option maxHeartbeats 4000000 in
theorem mark_mk (m : MarkV) (ad : Option Addr) (c q : Nat) (F : Bset) (w : World) (hl : m.raws.length ≤ 1048576) (hq : 1 + 2 * m.raws.length = q) (h : trees.OwnP w ad m.raws F) : Calls Tryz.prog 11 #[mkV m ad c, .int .i64 1] w fun e w' => e = .returned (.int .i64 (q : Int)) ∧ trees.OwnP w' ad (marksL 1 m.raws.length) F ∧ Out F w w' := by
  obtain ⟨k, n, R, b, x⟩ := m
  unfold mkV
  simp only at *
  have HA : Hid (∀ o, Below w.heap.size w (w.alloc o)) := fun o => (Below.refl _ _).alloc (Nat.le_refl _) o
  have H1 : Hid (∀ W, trees.OwnP W ad R F → Calls Tryz.prog 25 #[.slice ad R.length c, .int .i64 1] W fun e w' => e = .returned (.int .i64 (q : Int)) ∧ trees.OwnP w' ad (marksL 1 R.length) F ∧ Out F W w') := fun W hh => by
    have := mark_rows W ad R c 1 F hl (by omega) hh
    rw [hq] at this
    exact this
  have HO : Hid (∀ o, trees.OwnP (w.alloc o) ad R F) := fun o => trees.OwnP.out (G := fun _ => False) h (Out.of_below (HA.out o)) (fun _ _ h => h)
  clear h hq
  go_enter Tryz.func11, Tryz.ntmps11
  go_wp2_with fail
  refine Calls.mono (H1.out _ (HO.out _)) ?_
  rintro e w1 ⟨rfl, ho, hout⟩
  have HO1 : Hid _ := ho
  have HU1 : Hid (Out F w w1) := (Out.of_below (HA.out _)).trans hout
  clear ho hout
  go_wp2
  go_ret
  exact ⟨rfl, HO1.out, HU1.out⟩
set_option maxRecDepth 100000 in
set_option maxHeartbeats 4000000 in
theorem held_mk (m : MarkV) (ad : Option Addr) (c q : Nat) (F : Bset) (w : World) (hl : m.raws.length ≤ 1048576) (hq : 1 + 2 * m.raws.length = q) (h : trees.OwnP w ad (marksL 1 m.raws.length) F) : Calls Tryz.prog 12 #[mkV m ad c, .int .i64 1] w fun e w' => e = .returned (.int .i64 (q : Int)) ∧ Below w.heap.size w w' := by
  obtain ⟨k, n, R, b, x⟩ := m
  unfold mkV
  simp only at *
  have HA : Hid (∀ o, Below w.heap.size w (w.alloc o)) := fun o => (Below.refl _ _).alloc (Nat.le_refl _) o
  have H1 : Hid (∀ W, trees.OwnP W ad (marksL 1 R.length) F → Calls Tryz.prog 26 #[.slice ad R.length c, .int .i64 1] W fun e w' => e = .returned (.int .i64 (q : Int)) ∧ Below W.heap.size W w') := fun W hh => by
    have := held_rows W ad R.length c 1 F hl (by omega) hh
    rw [hq] at this
    exact this
  have HO : Hid (∀ o, trees.OwnP (w.alloc o) ad (marksL 1 R.length) F) := fun o => trees.OwnP.out (G := fun _ => False) h (Out.of_below (HA.out o)) (fun _ _ h => h)
  have hq0 : ¬ (q : Int) < 0 := by omega
  clear h hq
  go_enter Tryz.func12, Tryz.ntmps12
  go_wp2_with fail
  refine Calls.mono (H1.out _ (HO.out _)) ?_
  rintro e w1 ⟨rfl, hb⟩
  have HB1 : Hid (Below w.heap.size w w1) := (HA.out _).trans (hb.mono (HA.out _).size)
  clear hb
  go_wp2
  go_ret
  exact ⟨rfl, HB1.out⟩
end Go.Proofs.YtehdpkigfjjbaaaGreatDoor.cuts
