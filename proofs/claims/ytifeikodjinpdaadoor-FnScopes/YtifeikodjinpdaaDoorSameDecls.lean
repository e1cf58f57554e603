/-
  The laws' own comparison of two lists; parts of a list.
-/
import Derived.Test.YtifeikodjinpdaaDoorScopeFacts
import Derived.Test.YtifeikodjinpdaaDoorQuiet
import Derived.Deep.QuietTactic
import Derived.BigQuiet
namespace Go.Proofs.YtifeikodjinpdaaDoor.scopes
open Go.ChangeShapes Go.WideShapes Go.ChangeAt Go.RowKit
open pairs (Pair at0 PairsAt)
set_option linter.unusedVariables false
theorem pairs_left {w : World} {a : Option Addr} {L M : List Pair} (h : PairsAt w a (L ++ M)) : PairsAt w a L := by
  have hs := h.short
  rw [List.length_append] at hs
  refine ⟨fun h0 => ?_, by omega, fun i hi => ?_⟩
  · obtain ⟨b, off, ha, hlt, hc⟩ := h.row (by rw [List.length_append]; omega)
    exact ⟨b, off, ha, hlt, fun i hi => by have := hc i (by rw [List.length_append]; omega); rwa [at_left L M hi] at this⟩
  · have := h.texts i (by rw [List.length_append]; omega)
    rwa [at_left L M hi] at this
theorem pairs_right {w : World} {g off : Nat} {L M : List Pair} (h : PairsAt w (some ⟨g, off, none⟩) (L ++ M)) : PairsAt w (some ⟨g, off + L.length * 2, none⟩) M := by
  have hs := h.short
  rw [List.length_append] at hs
  refine ⟨fun h0 => ?_, by omega, fun i hi => ?_⟩
  · obtain ⟨b, off', ha, hlt, hc⟩ := h.row (by rw [List.length_append]; omega)
    cases ha
    refine ⟨g, off + L.length * 2, rfl, hlt, fun i hi => ?_⟩
    have := hc (L.length + i) (by rw [List.length_append]; omega)
    rw [at_right] at this
    rw [show off + L.length * 2 + i * 2 = off + (L.length + i) * 2 by omega]
    exact this
  · have := h.texts (L.length + i) (by rw [List.length_append]; omega)
    rwa [at_right] at this
set_option maxRecDepth 100000 in
set_option maxHeartbeats 2000000 in
theorem same_decls (w : World) (a a' : Option Addr) (L : List Pair) (cap cap' : Nat) (hL : Hid (PairsAt w a L)) (hL' : Hid (PairsAt w a' L)) : Calls Tryd.prog 18 #[.slice a L.length cap, .slice a' L.length cap'] w fun e w' => e = .returned (.bool true) ∧ Below w.heap.size w w' := by
  have hlen := hL.out.short
  unfold maxLen at hlen
  go_enter Tryd.func18, Tryd.ntmps18
  go_wp2
  go_loopw [5] (fun t wr => ∃ (k : Nat), k ≤ L.length ∧ t = .int .i64 k ∧ Hid (Below w.heap.size w wr)) (fun t _ => L.length - (intOf t).toNat)
  case atStart => exact ⟨0, Nat.zero_le _, rfl, Below.refl _ _⟩
  case round =>
    obtain ⟨k, hk, rfl, hbw⟩ := hrel
    by_cases hlt : k < L.length
    · obtain ⟨b, off, ha, hblt, hc⟩ := (hL.out.below (Nat.le_refl _) hbw.out).row (by omega)
      obtain ⟨b', off', ha', hblt', hc'⟩ := (hL'.out.below (Nat.le_refl _) hbw.out).row (by omega)
      obtain ⟨hc1, hc2⟩ := hc k hlt
      obtain ⟨hc1', hc2'⟩ := hc' k hlt
      subst ha ha'
      generalize (at0 L k).1 = n at hc1 hc1'
      generalize (at0 L k).2 = v at hc2 hc2'
      clear hc hc'
      have hnn : ∀ x : ByteArray, (!(x.toList == x.toList)) = false := fun x => by simp
      have hl : ∀ W, Below wr.heap.size wr W → W.cell? ⟨b, off + k * 2, none⟩ = some (.string n) ∧ W.cell? ⟨b, off + k * 2 + 1, none⟩ = some (.string v) := fun W h => ⟨(h.cell (p := ⟨b, off + k * 2, none⟩) hblt).trans hc1, (h.cell (p := ⟨b, off + k * 2 + 1, none⟩) hblt).trans hc2⟩
      have hl' : ∀ W, Below wr.heap.size wr W → W.cell? ⟨b', off' + k * 2, none⟩ = some (.string n) ∧ W.cell? ⟨b', off' + k * 2 + 1, none⟩ = some (.string v) := fun W h => ⟨(h.cell (p := ⟨b', off' + k * 2, none⟩) hblt').trans hc1', (h.cell (p := ⟨b', off' + k * 2 + 1, none⟩) hblt').trans hc2'⟩
      go_wp2_with fail
      refine quiets.wp_region_below (by kernel_rfl) (by kernel_rfl) ?_
      repeat (go_big_quiet_step ((first | (intro hq; simp [go_sem, hnn]; done) | (intro hq; rfl) | (intro hq; simp [go_sem, (hl _ hq).1, (hl _ hq).2]; rfl) | (intro hq; simp [go_sem, (hl' _ hq).1, (hl' _ hq).2]; rfl) | (intro hq; simp [go_sem]; try rfl))))
      refine wpQuiet_nil ?_
      intro w6 hb6
      have HB6 : Hid _ := hbw.out.trans (hb6.mono hbw.out.size)
      clear hb6 hl hl'
      go_wp2
      go_roundw
      case rel => exact ⟨k + 1, by omega, by go_num, HB6.out⟩
      case measure => simp [intOf]; omega
    · go_wp2
      go_ret
      exact ⟨rfl, hbw.out⟩
end Go.Proofs.YtifeikodjinpdaaDoor.scopes
