/-
  slices.Grow and slices.Concat of three slices of nodes.
-/
import Derived.Test.YtpejcblmglbjfaaPutRow
import Derived.Test.YtpejcblmglbjfaaImplInner
namespace Go.Proofs.Ytpejcblmglbjfaa.paths
open Go.ChangeShapes Go.WideShapes Go.ChangeAt Go.RowKit
open trees (Tree Hdr vals noTree kid nsz nszs tsize ksize NodeIn NodesAt OwnN OwnL Rng Out TH th0 cellsN trees1 noTH)
set_option linter.unusedVariables false
theorem grown_node (w : World) (n : Nat) (h0 : 0 < n) (hn : n ≤ 4000000) : (Question.appendCap n 0 28).cut (w.tape w.drawn (Question.appendCap n 0 28)) ≤ maxLen ∧ n ≤ (Question.appendCap n 0 28).cut (w.tape w.drawn (Question.appendCap n 0 28)) :=
  ⟨grownCap_le_maxLen w n 0 _ (by unfold maxLen; omega), grownCap_ge w n 0 _⟩
theorem src_sub {w w' : World} {g i : Nat} {u : Value} (hb : Below w.heap.size w w') (hc : w.cell? ⟨g, i, none⟩ = some u) : w'.cell? ⟨g, i, none⟩ = some u := (hb.cell (p := ⟨g, i, none⟩) (World.block_lt_of_cell? w _ hc)).trans hc
set_option maxRecDepth 100000 in
set_option maxHeartbeats 1000000 in
theorem growN_none (w : World) : Calls Try.prog 105 #[.slice none 0 0, .int .i64 0] w fun e w' => e = .returned (.slice none 0 0) ∧ w' = w := by
  go_enter Try.func105, Try.ntmps105
  go_wp2
  go_ret
  exact ⟨rfl, rfl⟩
set_option maxRecDepth 100000 in
set_option maxHeartbeats 1000000 in
theorem growN_some (n : Nat) (w : World) (h0 : 0 < n) (hn : n ≤ 4000000) : Calls Try.prog 105 #[.slice none 0 0, .int .i64 n] w fun e w' => ∃ v, e = .returned v ∧ NRow w 0 w' v [] := by
  have h0' : (0 : Int) < n := by omega
  have h1' : ¬ (n : Int) < 0 := by omega
  have h2' : (n : Int) * (Try.t28.bytes : Int) ≤ 281474976710656 := by show (n : Int) * 144 ≤ _; omega
  have h3' : ¬ 281474976710656 < Builtin.nextslicecap n 0 * Try.t28.bytes := by rw [nextslicecap_zero h0]; show ¬ _ < n * 144; omega
  have h4' : ¬ n = 0 := by omega
  go_enter Try.func105, Try.ntmps105
  go_wp2_with fail
  go_ret
  obtain ⟨hle, hge⟩ := grown_node w n h0 hn
  refine ⟨_, rfl, ?_, fun i hi => absurd hi (by simp), by simp, ((Below.refl _ _).alloc (Nat.le_refl _) _).drew⟩
  exact World.ownsRow_made w _ _ (Nat.le_refl _) hle (by rw [Array.size_append, size_zeroCells, size_zeroCells]; show n * 8 + (_ - n) * 8 = _ * 8; omega)
theorem appendN_zero (w : World) (ty : TypeId) (a : Option Addr) (c : Nat) : (Builtin.append_ #[26, 26] ty #[.slice none 0 0, .slice a 0 c]).run Try.prog w = .ok (.slice none 0 0) w := by
  obtain ⟨i0, hi, hz0, hz1, hz2⟩ := info_parts trees.infoN
  have hu := Try.underlying26
  cases a <;> simp [Builtin.append_, run_underlying hu, sizeOf, typeInfo, hi, Builtin.lenOf, Builtin.firstCells, loadCells, loadCellsFrom]
theorem growN_sum (n : Nat) (z : Int) (w : World) (h0 : ¬ n = 0) (hn : n ≤ 4000000) (hz : z = n) : Calls Try.prog 105 #[.slice none 0 0, .int .i64 z] w fun e w' => ∃ v, e = .returned v ∧ NRow w 0 w' v [] := by
  subst hz
  exact growN_some n w (by omega) hn
set_option maxRecDepth 100000 in
set_option maxHeartbeats 4000000 in
theorem concat_nodes (a1 a2 a3 : Option Addr) (L M R : List TH) (c1 c2 c3 g : Nat) (w : World) (hL : Hid (NSrc w 0 a1 L)) (hM : Hid (NSrc w 0 a2 M)) (hR : Hid (NSrc w 0 a3 R)) (hz : L.length + M.length + R.length ≤ 4000000) (hg1 : w.cell? ⟨g, 0, none⟩ = some (.slice a1 L.length c1)) (hg2 : w.cell? ⟨g, 1, none⟩ = some (.slice a2 M.length c2)) (hg3 : w.cell? ⟨g, 2, none⟩ = some (.slice a3 R.length c3)) :
    Calls Try.prog 90 #[.slice (some ⟨g, 0, none⟩) 3 3] w fun e w' => ∃ v, e = .returned v ∧ ((v = .slice none 0 0 ∧ (([] ++ L) ++ M) ++ R = [] ∧ w' = w) ∨ NRow w 0 w' v ((([] ++ L) ++ M) ++ R)) := by
  go_enter Try.func90, Try.ntmps90
  go_wp2_with fail
  go_loop [3, 11] (fun z t => (t = .int .i64 0 ∧ z = .int .i64 0) ∨ (t = .int .i64 1 ∧ z = .int .i64 (L.length : Int)) ∨ (t = .int .i64 2 ∧ z = .int .i64 ((L.length : Int) + (M.length : Int))) ∨ (t = .int .i64 3 ∧ z = .int .i64 ((L.length : Int) + (M.length : Int) + (R.length : Int)))) (fun _ t => 3 - (intOf t).toNat)
  case atStart => exact .inl ⟨rfl, rfl⟩
  case round =>
    rcases hrel with ⟨rfl, rfl⟩ | ⟨rfl, rfl⟩ | ⟨rfl, rfl⟩ | ⟨rfl, rfl⟩
    · go_wp2
      go_round
      case rel => exact .inr (.inl ⟨by go_num, by go_num⟩)
      case measure => simp [intOf]
    · go_wp2
      go_round
      case rel => exact .inr (.inr (.inl ⟨by go_num, by go_num⟩))
      case measure => simp [intOf]
    · go_wp2
      go_round
      case rel => exact .inr (.inr (.inr ⟨by go_num, by go_num⟩))
      case measure => simp [intOf]
    · by_cases h0 : L.length + M.length + R.length = 0
      · have hl0 : L = [] := List.length_eq_zero_iff.1 (by omega)
        have hm0 : M = [] := List.length_eq_zero_iff.1 (by omega)
        have hr0 : R = [] := List.length_eq_zero_iff.1 (by omega)
        have HN : Hid (∀ w, _) := growN_none
        subst hl0 hm0 hr0
        have hg1' : w.cell? ⟨g, 0, none⟩ = some (.slice a1 0 c1) := hg1
        have hg2' : w.cell? ⟨g, 1, none⟩ = some (.slice a2 0 c2) := hg2
        have hg3' : w.cell? ⟨g, 2, none⟩ = some (.slice a3 0 c3) := hg3
        clear hg1 hg2 hg3 h0
        go_wp2_with (go_at_call 105; refine (HN.out _).mono ?_; rintro e w1 ⟨rfl, hw1⟩; have hw2 := hw1.symm; clear hw1; subst hw2)
        go_loop [6, 27] (fun v t => v = .slice none 0 0 ∧ (t = .int .i64 0 ∨ t = .int .i64 1 ∨ t = .int .i64 2 ∨ t = .int .i64 3)) (fun _ t => 3 - (intOf t).toNat)
        case atStart => exact ⟨rfl, .inl rfl⟩
        case round =>
          obtain ⟨rfl, rfl | rfl | rfl | rfl⟩ := hrel
          · go_wp2_with (at_builtin; refine pairs.wpList_run (by rfl) _ _ _ (by rfl) _ _ _ (by rfl) (by rfl) (appendN_zero _ _ _ _) ?_)
            go_round
            case rel => exact ⟨rfl, .inr (.inl (by go_num))⟩
            case measure => simp [intOf]
          · go_wp2_with (at_builtin; refine pairs.wpList_run (by rfl) _ _ _ (by rfl) _ _ _ (by rfl) (by rfl) (appendN_zero _ _ _ _) ?_)
            go_round
            case rel => exact ⟨rfl, .inr (.inr (.inl (by go_num)))⟩
            case measure => simp [intOf]
          · go_wp2_with (at_builtin; refine pairs.wpList_run (by rfl) _ _ _ (by rfl) _ _ _ (by rfl) (by rfl) (appendN_zero _ _ _ _) ?_)
            go_round
            case rel => exact ⟨rfl, .inr (.inr (.inr (by go_num)))⟩
            case measure => simp [intOf]
          · go_wp2
            go_ret
            refine ⟨_, rfl, .inl ?_⟩
            first | exact ⟨rfl, rfl, rfl⟩ | exact ⟨rfl, rfl⟩ | simp
      · have HG : Hid (∀ w, _) := fun w => growN_sum (L.length + M.length + R.length) ((L.length : Int) + (M.length : Int) + (R.length : Int)) w h0 hz (by omega)
        go_wp2_with fail
        refine (HG.out _).mono ?_
        rintro e w1 ⟨v, rfl, ho⟩
        have HO : Hid (NRow w 0 w1 v []) := ho
        have HZ : Hid _ := hz
        clear ho h0 hz
        go_wp2_with fail
        go_loopw [6, 27] (fun v t wr => (t = .int .i64 0 ∧ Hid (NRow w 0 wr v [])) ∨ (t = .int .i64 1 ∧ Hid (NRow w 0 wr v ([] ++ L))) ∨ (t = .int .i64 2 ∧ Hid (NRow w 0 wr v (([] ++ L) ++ M))) ∨ (t = .int .i64 3 ∧ Hid (NRow w 0 wr v ((([] ++ L) ++ M) ++ R)))) (fun _ t _ => 3 - (intOf t).toNat)
        case atStart => exact .inl ⟨rfl, HO⟩
        case round =>
          rcases hrel with ⟨rfl, hd⟩ | ⟨rfl, hd⟩ | ⟨rfl, hd⟩ | ⟨rfl, hd⟩
          · have hc1 := src_sub hd.out.bel hg1
            go_wp2_with (at_builtin; refine add_row hd.out c1 L.length (hL.out.below hd.out.bel) hL.out.here (by have := HZ.out; simp; omega) (by rfl) _ _ (by rfl) (by rfl) (by rfl) (by rfl) ?_; rintro v1 w2 ho1)
            go_roundw
            case rel => exact .inr (.inl ⟨by go_num, ho1⟩)
            case measure => simp [intOf]
          · have hc2 := src_sub hd.out.bel hg2
            go_wp2_with (at_builtin; refine add_row hd.out c2 M.length (hM.out.below hd.out.bel) hM.out.here (by have := HZ.out; simp; omega) (by rfl) _ _ (by rfl) (by rfl) (by rfl) (by rfl) ?_; rintro v1 w2 ho1)
            go_roundw
            case rel => exact .inr (.inr (.inl ⟨by go_num, ho1⟩))
            case measure => simp [intOf]
          · have hc3 := src_sub hd.out.bel hg3
            go_wp2_with (at_builtin; refine add_row hd.out c3 R.length (hR.out.below hd.out.bel) hR.out.here (by have := HZ.out; simp; omega) (by rfl) _ _ (by rfl) (by rfl) (by rfl) (by rfl) ?_; rintro v1 w2 ho1)
            go_roundw
            case rel => exact .inr (.inr (.inr ⟨by go_num, ho1⟩))
            case measure => simp [intOf]
          · go_wp2
            go_ret
            exact ⟨_, rfl, .inr hd.out⟩
end Go.Proofs.Ytpejcblmglbjfaa.paths
