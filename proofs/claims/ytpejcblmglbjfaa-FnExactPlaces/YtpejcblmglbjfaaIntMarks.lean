/-
  The laws' marks in slices of whole numbers.
-/
import Derived.Test.YtpejcblmglbjfaaIntFns
namespace Go.Proofs.Ytpejcblmglbjfaa.ints
open Go.ChangeShapes Go.WideShapes Go.ChangeAt Go.RowKit
open trees (Bset Inc Apart Out Rng)
set_option linter.unusedVariables false
/-- What becomes of a block when marks are laid in some of its cells. -/
structure MarkedI (cur cur' : Array Value) (off n k : Nat) : Prop where
  size : cur'.size = cur.size
  done : ∀ j, j < n → cur'[off + j]? = some (.int .i64 ((k + j : Nat) : Int))
  rest : ∀ j, (j < off ∨ off + n ≤ j) → cur'[j]? = cur[j]?
theorem MarkedI.nil (cur : Array Value) (off k : Nat) : MarkedI cur cur off 0 k := ⟨rfl, fun j hj => by omega, fun _ _ => rfl⟩
theorem MarkedI.next {cur cur' : Array Value} {off n k : Nat} (h : MarkedI cur cur' off n k) (hs : off + n < cur.size) : MarkedI cur (cur'.setIfInBounds (off + n) (.int .i64 ((k + n : Nat) : Int))) off (n + 1) k := by
  refine ⟨by rw [Array.size_setIfInBounds]; exact h.size, fun j hj => ?_, fun j hj => ?_⟩
  · by_cases e : j = n
    · subst e
      rw [Array.getElem?_setIfInBounds_self_of_lt (by rw [h.size]; exact hs)]
    · rw [Array.getElem?_setIfInBounds_ne (by omega)]
      exact h.done j (by omega)
  · rw [Array.getElem?_setIfInBounds_ne (by omega)]
    exact h.rest j (by omega)
set_option maxRecDepth 100000 in
theorem mark_emp (a : Option Addr) (cap k : Nat) (w : World) : Calls Try.prog 36 #[.slice a 0 cap, .int .i64 k] w fun e w' => e = .returned (.int .i64 k) ∧ w' = w := by
  go_enter Try.func36, Try.ntmps36
  go_wp2
  go_loop [1, 5] (fun q t => q = .int .i64 (k : Int) ∧ t = .int .i64 0) (fun _ _ => 0)
  case atStart => exact ⟨rfl, rfl⟩
  case round =>
    obtain ⟨rfl, rfl⟩ := hrel
    go_wp2
    go_ret
    exact ⟨rfl, rfl⟩
set_option maxRecDepth 100000 in
set_option maxHeartbeats 2000000 in
theorem mark_row (w : World) (g off n cap k : Nat) (cur : Array Value) (ty : TypeId) (hn : n ≤ 4000000) (hk : k ≤ 8796093022208) (hg : Hid (w.heap[g]? = some (.cells cur ty (0, 0)))) (hs : off + n ≤ cur.size) :
    Calls Try.prog 36 #[.slice (some ⟨g, off, none⟩) n cap, .int .i64 k] w fun e w' => e = .returned (.int .i64 ((k + n : Nat) : Int)) ∧ (∃ cur', w'.heap[g]? = some (.cells cur' ty (0, 0)) ∧ MarkedI cur cur' off n k) ∧ w.grownBy w' (some g) := by
  have HS : Hid (off + n ≤ cur.size) := hs
  clear hs
  have HM0 : Hid (MarkedI cur cur off 0 k) := MarkedI.nil cur off k
  have HG0 : Hid (w.grownBy w (some g)) := pairs.grown_refl w g
  go_enter Try.func36, Try.ntmps36
  go_wp2
  go_loopw [1, 5] (fun q t wr => ∃ (i : Nat) (cu : Array Value), i ≤ n ∧ t = .int .i64 i ∧ q = .int .i64 ((k + i : Nat) : Int) ∧ Hid (wr.heap[g]? = some (.cells cu ty (0, 0))) ∧ Hid (MarkedI cur cu off i k) ∧ Hid (w.grownBy wr (some g))) (fun _ t _ => n - (intOf t).toNat)
  case atStart => exact ⟨0, cur, Nat.zero_le _, rfl, by simp, hg, HM0, HG0⟩
  case round =>
    obtain ⟨i, cu, hi, rfl, rfl, hcu, hm, hgr⟩ := hrel
    by_cases hlt : i < n
    · have hsz : off + i < cu.size := by have := HS.out; have := hm.out.size; omega
      obtain ⟨x0, x1⟩ := pairs.blk_cell hcu.out hsz
      generalize cu[off + i] = c at x0
      have HC : Hid ((wr.setCell ⟨g, off + i, none⟩ (.int .i64 ((k + i : Nat) : Int))).heap[g]? = _) := pairs.block_set _ hcu.out
      have HN : Hid (MarkedI cur (cu.setIfInBounds (off + i) (.int .i64 ((k + i : Nat) : Int))) off (i + 1) k) := hm.out.next (by have := HS.out; omega)
      clear hsz
      go_wp2
      go_roundw
      case rel => exact ⟨i + 1, _, by omega, by go_num, by go_num, HC, HN, pairs.grown_trans hgr.out (pairs.grown_set wr g (off + i) _)⟩
      case measure => simp [intOf]; omega
    · obtain rfl : i = n := by omega
      go_wp2
      go_ret
      exact ⟨rfl, ⟨cu, hcu.out, hm.out⟩, hgr.out⟩
/-- Marks in a row that is owned: how many, and that nothing else has turned. -/
theorem mark_own {w : World} {a : Option Addr} {L : List Int} {cap k q : Nat} {F : Bset} (hn : L.length ≤ 4000000) (hk : k ≤ 100000000) (hq : k + L.length = q) (hL : OwnI w a L F) :
    Calls Try.prog 36 #[.slice a L.length cap, .int .i64 k] w fun e w' => e = .returned (.int .i64 (q : Int)) ∧ Out F w w' := by
  subst hq
  by_cases h0 : 0 < L.length
  · obtain ⟨g, rfl, hg, cur, ty, h1, h2, h3⟩ := hL h0
    exact (mark_row w g 0 L.length cap k cur ty hn (by omega) h1 (by omega)).mono fun e w' ⟨he, _, hgr⟩ => ⟨he, Out.grown hgr hg⟩
  · have e0 : L = [] := List.length_eq_zero_iff.1 (by omega)
    subst e0
    exact (mark_emp a cap k w).mono fun e w' ⟨he, hw⟩ => ⟨he, hw ▸ Out.refl _ _⟩
set_option maxRecDepth 100000 in
theorem held_emp (a : Option Addr) (cap k : Nat) (w : World) : Calls Try.prog 79 #[.slice a 0 cap, .int .i64 k] w fun e w' => e = .returned (.int .i64 k) ∧ w' = w := by
  go_enter Try.func79, Try.ntmps79
  go_wp2
  go_loop [1, 5] (fun q t => q = .int .i64 (k : Int) ∧ t = .int .i64 0) (fun _ _ => 0)
  case atStart => exact ⟨rfl, rfl⟩
  case round =>
    obtain ⟨rfl, rfl⟩ := hrel
    go_wp2
    go_ret
    exact ⟨rfl, rfl⟩
set_option maxRecDepth 100000 in
set_option maxHeartbeats 2000000 in
theorem held_row (w : World) (g off n cap k : Nat) (hn : n ≤ 4000000) (hk : k ≤ 8796093022208) (hlt : g < w.heap.size) (hg : Hid (∀ j, j < n → w.cell? ⟨g, off + j, none⟩ = some (.int .i64 ((k + j : Nat) : Int)))) :
    Calls Try.prog 79 #[.slice (some ⟨g, off, none⟩) n cap, .int .i64 k] w fun e w' => e = .returned (.int .i64 ((k + n : Nat) : Int)) ∧ Below w.heap.size w w' := by
  go_enter Try.func79, Try.ntmps79
  go_wp2
  go_loopw [1, 5] (fun q t wr => ∃ (i : Nat), i ≤ n ∧ t = .int .i64 i ∧ q = .int .i64 ((k + i : Nat) : Int) ∧ Hid (Below w.heap.size w wr)) (fun _ t _ => n - (intOf t).toNat)
  case atStart => exact ⟨0, Nat.zero_le _, rfl, by simp, Below.refl _ _⟩
  case round =>
    obtain ⟨i, hi, rfl, rfl, hbw⟩ := hrel
    by_cases hlt : i < n
    · have hc : wr.cell? ⟨g, off + i, none⟩ = some (.int .i64 ((k + i : Nat) : Int)) := (hbw.out.cell (p := ⟨g, off + i, none⟩) ‹_›).trans (hg.out i hlt)
      have hxx : (((k + i : Nat) : Int) != ((k + i : Nat) : Int)) = false := by simp
      go_wp2
      go_roundw
      case rel => exact ⟨i + 1, by omega, by go_num, by go_num, hbw⟩
      case measure => simp [intOf]; omega
    · obtain rfl : i = n := by omega
      go_wp2
      go_ret
      exact ⟨rfl, hbw.out⟩
end Go.Proofs.Ytpejcblmglbjfaa.ints
