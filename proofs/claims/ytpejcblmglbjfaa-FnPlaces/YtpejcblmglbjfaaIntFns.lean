/-
  The laws' own helpers on slices of whole numbers: a copy, whether two are the same, marks.
-/
import Derived.Test.YtpejcblmglbjfaaInts
import Derived.Lib.SmallJoins
import Derived.BigQuiet
namespace Go.Proofs.Ytpejcblmglbjfaa.ints
open Go.ChangeShapes Go.WideShapes Go.ChangeAt Go.RowKit
open trees (Bset Inc Apart Out Rng)
set_option linter.unusedVariables false
theorem info_int : (Try.prog.info? 3).map (fun i => (i.zero, i.size, i.bytes)) = some (some (.int .i64 0), 1, 8) := by kernel_rfl
set_option maxRecDepth 100000 in
set_option maxHeartbeats 2000000 in
theorem to_ints (w : World) (a : Option Addr) (L : List Int) (cap : Nat) (hL : Hid (IntsAt w a L)) (hz : L.length ≤ 1048576) :
    Calls Try.prog 32 #[.slice a L.length cap] w fun e w' => (∃ g, e = .returned (.slice (some ⟨g, 0, none⟩) L.length L.length) ∧ w.heap.size ≤ g ∧ IntsAt w' (some ⟨g, 0, none⟩) L ∧ MadeI w' g L L.length) ∧ Below w.heap.size w w' := by
  go_enter Try.func32, Try.ntmps32
  go_wp2
  obtain ⟨i0, hi, hz0, hz1, hz2⟩ := info_parts info_int
  obtain ⟨w1, hrun, hown, hgr⟩ := run_make_full (P := Try.prog) w w.heap.size 32 3 i0 (.int .i64 0) 1 Try.underlying32 hi hz0 hz1 .i64 .i64 L.length (by rw [hz2]; omega) (by unfold maxLen; omega) (Nat.le_refl _)
  refine pairs.upon_of_run hrun ?_
  have hm : MadeI w1 w.heap.size L 0 := madeI_new hown rfl
  have HM : Hid _ := hm
  have HB : Hid (Below w.heap.size w w1) := (Below.refl _ _).grown hgr (Nat.le_refl _) (fun k hk => by cases hk)
  clear hm hrun hown hgr
  go_wp2
  go_loopw [4] (fun t wr => ∃ (k : Nat), k ≤ L.length ∧ t = .int .i64 k ∧ Hid (MadeI wr w.heap.size L k) ∧ Hid (Below w.heap.size w wr)) (fun t _ => L.length - (intOf t).toNat)
  case atStart => exact ⟨0, Nat.zero_le _, rfl, HM, HB⟩
  case round =>
    obtain ⟨k, hk, rfl, hmr, hbw⟩ := hrel
    by_cases hlt : k < L.length
    · obtain ⟨b, off, ha, hblt, hc⟩ := (hL.out.below (Nat.le_refl _) hbw.out).row (by omega)
      have hc1 := hc k hlt
      obtain ⟨c0, hd0, hf0, hnext⟩ := hmr.out.next hlt (Below.refl _ _)
      subst ha
      generalize int0 L k = x at hc1 hnext
      have HNX : Hid _ := hnext
      clear hc hnext
      go_wp2
      go_roundw
      case rel => exact ⟨k + 1, by omega, by go_num, HNX.out, pairs.below_set hbw.out (Nat.le_refl _)⟩
      case measure => simp [intOf]; omega
    · have HF : Hid (IntsAt wr (some ⟨w.heap.size, 0, none⟩) L ∧ MadeI wr w.heap.size L L.length) := by
        have h1 := hmr.out
        rw [show k = L.length by omega] at h1
        exact ⟨h1.ints hL.out.short hL.out.fit, h1⟩
      go_wp2
      go_ret
      exact ⟨⟨_, rfl, Nat.le_refl _, HF.out⟩, hbw.out⟩
/-- A copy, owned. -/
theorem to_own (w : World) (a : Option Addr) (L : List Int) (cap : Nat) (hL : IntsAt w a L) (hz : L.length ≤ 1048576) :
    Calls Try.prog 32 #[.slice a L.length cap] w fun e w' => (∃ g, e = .returned (.slice (some ⟨g, 0, none⟩) L.length L.length) ∧ OwnI w' (some ⟨g, 0, none⟩) L (Rng w w')) ∧ Below w.heap.size w w' :=
  (to_ints w a L cap hL hz).mono fun e w' ⟨⟨g, he, hg, _, hm⟩, hb⟩ => ⟨⟨g, he, fun _ => ⟨g, rfl, ⟨hg, hm.lt⟩, hm⟩⟩, hb⟩
set_option maxRecDepth 100000 in
set_option maxHeartbeats 2000000 in
theorem eq_ints (w : World) (a a' : Option Addr) (L : List Int) (cap cap' : Nat) (hL : Hid (IntsAt w a L)) (hL' : Hid (IntsAt w a' L)) :
    Calls Try.prog 34 #[.slice a L.length cap, .slice a' L.length cap'] w fun e w' => e = .returned (.bool true) ∧ Below w.heap.size w w' := by
  have hlen := hL.out.short
  unfold maxLen at hlen
  go_enter Try.func34, Try.ntmps34
  go_wp2
  go_loopw [5] (fun t wr => ∃ (k : Nat), k ≤ L.length ∧ t = .int .i64 k ∧ Hid (Below w.heap.size w wr)) (fun t _ => L.length - (intOf t).toNat)
  case atStart => exact ⟨0, Nat.zero_le _, rfl, Below.refl _ _⟩
  case round =>
    obtain ⟨k, hk, rfl, hbw⟩ := hrel
    by_cases hlt : k < L.length
    · obtain ⟨b, off, ha, hblt, hc⟩ := (hL.out.below (Nat.le_refl _) hbw.out).row (by omega)
      obtain ⟨b', off', ha', hblt', hc'⟩ := (hL'.out.below (Nat.le_refl _) hbw.out).row (by omega)
      have hl := hc k hlt
      have hl' := hc' k hlt
      subst ha ha'
      generalize int0 L k = x at hl hl'
      have hxx : (x != x) = false := by simp
      clear hc hc'
      go_wp2_with fail
      go_quiet (fail)
      go_wp2
      go_roundw
      case rel => exact ⟨k + 1, by omega, by go_num, below_drewN hbw.out _⟩
      case measure => simp [intOf]; omega
    · go_wp2
      go_ret
      exact ⟨rfl, hbw.out⟩
theorem eq_own {w : World} {I : List Int} {a a' : Option Addr} {c c' : Nat} {F F' : Bset} (hf : IFit I) (hn : OwnI w a I F) (hn' : OwnI w a' I F') : Calls Try.prog 34 #[.slice a I.length c, .slice a' I.length c'] w fun e w' => e = .returned (.bool true) ∧ Below w.heap.size w w' := eq_ints w a a' I c c' (hn.at hf) (hn'.at hf)
end Go.Proofs.Ytpejcblmglbjfaa.ints
