/-
  What the program's Inner answers: slices.Concat, and slices.Grow within it.
-/
import Derived.Test.YtglcjaedmmknpaaGreatDoorScopeP
import Derived.Test.YtglcjaedmmknpaaGreatDoorPairOwnDecl
namespace Go.Proofs.YtglcjaedmmknpaaGreatDoor.scopes
open Go.ChangeShapes Go.WideShapes Go.ChangeAt Go.RowKit
open pairs (Pair at0 PairsAt)
set_option linter.unusedVariables false
theorem grown_both (w : World) (n : Nat) (h0 : 0 < n) (hn : n ≤ 4000000) : (Question.appendCap n 0 59).cut (w.tape w.drawn (Question.appendCap n 0 59)) ≤ maxLen ∧ n ≤ (Question.appendCap n 0 59).cut (w.tape w.drawn (Question.appendCap n 0 59)) :=
  ⟨grownCap_le_maxLen w n 0 _ (by unfold maxLen; omega), grownCap_ge w n 0 _⟩
theorem own_under {t : TypeId} {w : World} {B B' : Nat} {v : Value} {L : List Pair} (h : pairs.OwnP t w B v L) (hB : B' ≤ B) : pairs.OwnP t w B' v L := by
  refine ⟨h.1, ?_⟩
  rcases h.2 with h1 | ⟨g, cap, cur, e, hb, rest⟩
  · exact .inl h1
  · exact .inr ⟨g, cap, cur, e, by omega, rest⟩
set_option maxRecDepth 100000 in
set_option maxHeartbeats 1000000 in
theorem grow_none (w : World) : Calls Tryz.prog 54 #[.slice none 0 0, .int .i64 0] w fun e w' => e = .returned (.slice none 0 0) ∧ w' = w := by
  go_enter Tryz.func54, Tryz.ntmps54
  go_wp2
  go_ret
  exact ⟨rfl, rfl⟩
set_option maxRecDepth 100000 in
set_option maxHeartbeats 1000000 in
theorem grow_some (n : Nat) (w : World) (h0 : 0 < n) (hn : n ≤ 4000000) : Calls Tryz.prog 54 #[.slice none 0 0, .int .i64 n] w fun e w' => ∃ v, e = .returned v ∧ pairs.OwnP 59 w' w.heap.size v [] ∧ v ≠ .slice none 0 0 ∧ Below w.heap.size w w' := by
  have h0' : (0 : Int) < n := by omega
  have h1' : ¬ (n : Int) < 0 := by omega
  have h2' : (n : Int) * (Tryz.t59.bytes : Int) ≤ 281474976710656 := by show (n : Int) * 32 ≤ _; omega
  have h3' : ¬ 281474976710656 < Builtin.nextslicecap n 0 * Tryz.t59.bytes := by rw [nextslicecap_zero h0]; show ¬ _ < n * 32; omega
  have h4' : ¬ n = 0 := by omega
  go_enter Tryz.func54, Tryz.ntmps54
  go_wp2_with fail
  go_ret
  obtain ⟨hle, hge⟩ := grown_both w n h0 hn
  refine ⟨_, rfl, ?_, by simp, ((Below.refl _ _).alloc (Nat.le_refl _) _).drew⟩
  exact World.ownsRow_made w _ _ (Nat.le_refl _) hle (by rw [Array.size_append, size_zeroCells, size_zeroCells]; show n * 2 + (_ - n) * 2 = _ * 2; omega)
theorem append_zero (w : World) (ty : TypeId) (a : Option Addr) (c : Nat) : (Builtin.append_ #[29, 29] ty #[.slice none 0 0, .slice a 0 c]).run Tryz.prog w = .ok (.slice none 0 0) w := by
  obtain ⟨i0, hi, hz0, hz1, hz2⟩ := info_parts pairs.infoO_Decl
  have hu := Tryz.underlying29
  cases a <;> simp [Builtin.append_, run_underlying hu, sizeOf, typeInfo, hi, Builtin.lenOf, Builtin.firstCells, loadCells, loadCellsFrom]
theorem grow_sum (n m : Nat) (w : World) (h0 : ¬ n + m = 0) (hn : n + m ≤ 4000000) : Calls Tryz.prog 54 #[.slice none 0 0, .int .i64 ((n : Int) + (m : Int))] w fun e w' => ∃ v, e = .returned v ∧ pairs.OwnP 59 w' w.heap.size v [] ∧ v ≠ .slice none 0 0 ∧ Below w.heap.size w w' := by
  have := grow_some (n + m) w (by omega) hn
  rw [show ((n + m : Nat) : Int) = (n : Int) + (m : Int) by omega] at this
  exact this
structure Grown (w wr : World) (v : Value) (L : List Pair) : Prop where
  own : pairs.OwnP 59 wr w.heap.size v L
  not : v ≠ .slice none 0 0
  bel : Below w.heap.size w wr
theorem Grown.sub {w wr : World} {v : Value} {L : List Pair} (h : Grown w wr v L) {g i : Nat} {u : Value} (hc : w.cell? ⟨g, i, none⟩ = some u) : wr.cell? ⟨g, i, none⟩ = some u := (h.bel.cell (p := ⟨g, i, none⟩) (World.block_lt_of_cell? w _ hc)).trans hc
set_option maxRecDepth 100000 in
set_option maxHeartbeats 4000000 in
theorem concat_any (a a' : Option Addr) (L M : List Pair) (cap cap' g : Nat) (w : World) (hL : Hid (PairsAt w a L)) (hM : Hid (PairsAt w a' M)) (hz : L.length + M.length ≤ 4000000) (hg1 : w.cell? ⟨g, 0, none⟩ = some (.slice a L.length cap)) (hg2 : w.cell? ⟨g, 1, none⟩ = some (.slice a' M.length cap')) : Calls Tryz.prog 39 #[.slice (some ⟨g, 0, none⟩) 2 2] w fun e w' => ∃ v, e = .returned v ∧ pairs.OwnP 59 w' w.heap.size v (L ++ M) ∧ (v = .slice none 0 0 ↔ L ++ M = []) ∧ Below w.heap.size w w' := by
  go_enter Tryz.func39, Tryz.ntmps39
  go_wp2_with fail
  go_loop [3, 11] (fun z t => (t = .int .i64 0 ∧ z = .int .i64 0) ∨ (t = .int .i64 1 ∧ z = .int .i64 (L.length : Int)) ∨ (t = .int .i64 2 ∧ z = .int .i64 ((L.length : Int) + (M.length : Int)))) (fun _ t => 2 - (intOf t).toNat)
  case atStart => exact .inl ⟨rfl, rfl⟩
  case round =>
    rcases hrel with ⟨rfl, rfl⟩ | ⟨rfl, rfl⟩ | ⟨rfl, rfl⟩
    · go_wp2
      go_round
      case rel => exact .inr (.inl ⟨by go_num, by go_num⟩)
      case measure => simp [intOf]
    · go_wp2
      go_round
      case rel => exact .inr (.inr ⟨by go_num, by go_num⟩)
      case measure => simp [intOf]
    · by_cases h0 : L.length + M.length = 0
      · have hl0 : L = [] := List.length_eq_zero_iff.1 (by omega)
        have hm0 : M = [] := List.length_eq_zero_iff.1 (by omega)
        have hn := grow_none
        have HN : Hid (∀ w, _) := hn
        subst hl0 hm0
        have hg1' : w.cell? ⟨g, 0, none⟩ = some (.slice a 0 cap) := hg1
        have hg2' : w.cell? ⟨g, 1, none⟩ = some (.slice a' 0 cap') := hg2
        clear hg1 hg2 h0 hn
        go_wp2_with (go_at_call 54; refine (HN.out _).mono ?_; rintro e w1 ⟨rfl, hw1⟩; have hw2 := hw1.symm; clear hw1; subst hw2)
        go_loop [6, 27] (fun v t => v = .slice none 0 0 ∧ (t = .int .i64 0 ∨ t = .int .i64 1 ∨ t = .int .i64 2)) (fun _ t => 2 - (intOf t).toNat)
        case atStart => exact ⟨rfl, .inl rfl⟩
        case round =>
          obtain ⟨rfl, rfl | rfl | rfl⟩ := hrel
          · go_wp2_with (at_builtin; refine pairs.wpList_run (by rfl) _ _ _ (by rfl) _ _ _ (by rfl) (by rfl) (append_zero _ _ _ _) ?_)
            go_round
            case rel => exact ⟨rfl, .inr (.inl (by go_num))⟩
            case measure => simp [intOf]
          · go_wp2_with (at_builtin; refine pairs.wpList_run (by rfl) _ _ _ (by rfl) _ _ _ (by rfl) (by rfl) (append_zero _ _ _ _) ?_)
            go_round
            case rel => exact ⟨rfl, .inr (.inr (by go_num))⟩
            case measure => simp [intOf]
          · go_wp2
            go_ret
            exact ⟨_, rfl, World.ownsRow_nil _ _ _ _, by simp, Below.refl _ _⟩
      · have HG : Hid (∀ w, _) := fun w => grow_sum L.length M.length w h0 hz
        go_wp2_with fail
        refine (HG.out _).mono ?_
        rintro e w1 ⟨v, rfl, ho, hv, hb⟩
        have HO : Hid (Grown w w1 v []) := ⟨ho, hv, hb⟩
        have HNE : Hid (¬ L ++ M = []) := fun e => h0 (by rw [← List.length_append, e]; rfl)
        have HZ : Hid _ := hz
        clear ho hv hb h0 hz
        go_wp2_with fail
        go_loopw [6, 27] (fun v t wr => (t = .int .i64 0 ∧ Hid (Grown w wr v [])) ∨ (t = .int .i64 1 ∧ Hid (Grown w wr v ([] ++ L))) ∨ (t = .int .i64 2 ∧ Hid (Grown w wr v (([] ++ L) ++ M)))) (fun _ t _ => 2 - (intOf t).toNat)
        case atStart => exact .inl ⟨rfl, HO⟩
        case round =>
          rcases hrel with ⟨rfl, hd⟩ | ⟨rfl, hd⟩ | ⟨rfl, hd⟩
          · have hc1 := hd.out.sub hg1
            go_wp2_with (at_builtin; refine pairs.app_Decl w.heap.size _ [] L a cap hd.out.own (hL.out.below (Nat.le_refl _) hd.out.bel) (by have := HZ.out; simp; omega) hd.out.bel.size hd.out.not (by rfl) _ _ (by rfl) (by rfl) (by rfl) ?_; rintro v1 w2 ho1 hb1 hv1)
            go_roundw
            case rel => exact .inr (.inl ⟨by go_num, ho1, hv1, hd.out.bel.trans hb1⟩)
            case measure => simp [intOf]
          · have hc2 := hd.out.sub hg2
            go_wp2_with (at_builtin; refine pairs.app_Decl w.heap.size _ ([] ++ L) M a' cap' hd.out.own (hM.out.below (Nat.le_refl _) hd.out.bel) HZ.out hd.out.bel.size hd.out.not (by rfl) _ _ (by rfl) (by rfl) (by rfl) ?_; rintro v1 w2 ho1 hb1 hv1)
            go_roundw
            case rel => exact .inr (.inr ⟨by go_num, ho1, hv1, hd.out.bel.trans hb1⟩)
            case measure => simp [intOf]
          · go_wp2
            go_ret
            exact ⟨_, rfl, hd.out.own, ⟨fun e => absurd e hd.out.not, fun e => absurd e HNE.out⟩, hd.out.bel⟩
set_option maxRecDepth 100000 in
set_option maxHeartbeats 1000000 in
theorem impl_inner (a a' : Option Addr) (L M : List Pair) (cap cap' : Nat) (w : World) (hL : PairsAt w a L) (hM : PairsAt w a' M) (hz : L.length + M.length ≤ 4000000) :
    Calls Tryz.prog 33 #[.slice a L.length cap, .slice a' M.length cap'] w fun e w' => (∃ v, e = .returned v ∧ pairs.OwnP 59 w' w.heap.size v (L ++ M) ∧ (v = .slice none 0 0 ↔ L ++ M = [])) ∧ Below w.heap.size w w' := by
  have HZ : Hid _ := hz
  have HL : Hid _ := hL
  have HM : Hid _ := hM
  clear hz hL hM
  go_enter Tryz.func33, Tryz.ntmps33
  go_wp2_with fail
  refine (concat_any a a' L M cap cap' _ _ (HL.out.below (Nat.le_refl _) ((Below.refl _ _).alloc (Nat.le_refl _) _)) (HM.out.below (Nat.le_refl _) ((Below.refl _ _).alloc (Nat.le_refl _) _)) HZ.out (by simp) (by simp)).mono ?_
  rintro e w1 ⟨v, rfl, ho, hv, hb⟩
  have HO : Hid _ := own_under (B' := w.heap.size) ho (by simp)
  have HV : Hid _ := hv
  have HB : Hid _ := ((Below.refl _ _).alloc (Nat.le_refl _) _).trans (hb.mono (by simp))
  clear ho hv hb
  go_wp2
  go_ret
  exact ⟨⟨_, rfl, HO.out, HV.out⟩, HB.out⟩
end Go.Proofs.YtglcjaedmmknpaaGreatDoor.scopes
