/-
  The laws' own helpers on slices of structs of two texts (Raw): how great, a copy, whether two are the same.
-/
import Derived.Test.YtehdpkigfjjbaaaGreatDoorPairs
import Derived.Test.YtehdpkigfjjbaaaGreatDoorQuiet
import Derived.Deep.SlicePairs
import Derived.Lib.SmallJoins
namespace Go.Proofs.YtehdpkigfjjbaaaGreatDoor.pairs
open Go.ChangeShapes Go.WideShapes Go.ChangeAt Go.RowKit
set_option linter.unusedVariables false
set_option maxHeartbeats 1000000 in
theorem eq_Raw (n v : ByteArray) (w : World) : Calls Tryz.prog 47 #[.agg #[.string n, .string v], .agg #[.string n, .string v]] w fun e w' => e = .returned (.bool true) ∧ Below w.heap.size w w' := by
  go_enter Tryz.func47, Tryz.ntmps47
  go_wp2
  go_ret
  exact ⟨rfl, ((Below.refl _ _).alloc (Nat.le_refl _) _).alloc (by simp) _⟩
set_option maxRecDepth 100000 in
set_option maxHeartbeats 2000000 in
theorem eq_RawS (w : World) (a a' : Option Addr) (L : List Pair) (cap cap' : Nat) (hL : Hid (PairsAt w a L)) (hL' : Hid (PairsAt w a' L)) :
    Calls Tryz.prog 22 #[.slice a L.length cap, .slice a' L.length cap'] w fun e w' => e = .returned (.bool true) ∧ Below w.heap.size w w' := by
  have hlen := hL.out.short
  unfold maxLen at hlen
  go_enter Tryz.func22, Tryz.ntmps22
  go_wp2
  go_loopw [5] (fun t wr => ∃ (k : Nat), k ≤ L.length ∧ t = .int .i64 k ∧ Hid (Below w.heap.size w wr)) (fun t _ => L.length - (intOf t).toNat)
  case atStart => exact ⟨0, Nat.zero_le _, rfl, Below.refl _ _⟩
  case round =>
    obtain ⟨k, hk, rfl, hbw⟩ := hrel
    by_cases hlt : k < L.length
    · obtain ⟨b, off, ha, hblt, hc⟩ := (hL.out.below (Nat.le_refl _) hbw.out).row (by omega)
      obtain ⟨b', off', ha', hblt', hc'⟩ := (hL'.out.below (Nat.le_refl _) hbw.out).row (by omega)
      obtain ⟨hc1, hc2⟩ := hc k hlt
      obtain ⟨hc1', hc2'⟩ := hc' k hlt
      subst ha ha'
      generalize (at0 L k).1 = n at hc1 hc1'
      generalize (at0 L k).2 = v at hc2 hc2'
      clear hc hc'
      have hl : ∀ W, Below wr.heap.size wr W → W.cell? ⟨b, off + k * 2, none⟩ = some (.string n) ∧ W.cell? ⟨b, off + k * 2 + 1, none⟩ = some (.string v) := fun W h => ⟨(h.cell (p := ⟨b, off + k * 2, none⟩) hblt).trans hc1, (h.cell (p := ⟨b, off + k * 2 + 1, none⟩) hblt).trans hc2⟩
      have hl' : ∀ W, Below wr.heap.size wr W → W.cell? ⟨b', off' + k * 2, none⟩ = some (.string n) ∧ W.cell? ⟨b', off' + k * 2 + 1, none⟩ = some (.string v) := fun W h => ⟨(h.cell (p := ⟨b', off' + k * 2, none⟩) hblt').trans hc1', (h.cell (p := ⟨b', off' + k * 2 + 1, none⟩) hblt').trans hc2'⟩
      go_wp2_with fail
      refine quiets.wp_region_below (by kernel_rfl) (by kernel_rfl) ?_
      repeat (go_big_quiet_step ((first | (intro hq; rfl) | (intro hq; simp [go_sem, (hl _ hq).1, (hl _ hq).2]; rfl) | (intro hq; simp [go_sem, (hl' _ hq).1, (hl' _ hq).2]; rfl) | (intro hq; exact quiets.below_call (eq_Raw _ _ _) hq))))
      refine wpQuiet_nil ?_
      intro w6 hb6
      have HB6 : Hid _ := hbw.out.trans (hb6.mono hbw.out.size)
      clear hb6 hl hl'
      go_wp2
      go_roundw
      case rel => exact ⟨k + 1, by omega, by go_num, HB6.out⟩
      case measure => simp [intOf]; omega
    · go_wp2
      go_ret
      exact ⟨rfl, hbw.out⟩
end Go.Proofs.YtehdpkigfjjbaaaGreatDoor.pairs
