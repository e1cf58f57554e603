/-
  What the specification's SpaceOf, PreFor and Inner answer.
-/
import Derived.Test.YtifeikodjinpdaaDoorScopeP
import Derived.Test.YtifeikodjinpdaaDoorPairOwnDecl
import Derived.Deep.QuietTactic
import Derived.BigQuiet
namespace Go.Proofs.YtifeikodjinpdaaDoor.scopes
open Go.ChangeShapes Go.WideShapes Go.ChangeAt Go.RowKit
open pairs (Pair at0 PairsAt)
set_option linter.unusedVariables false
set_option maxRecDepth 100000 in
set_option maxHeartbeats 2000000 in
theorem spec_space (a : Option Addr) (L : List Pair) (cap : Nat) (pre : ByteArray) (w : World) (hL : Hid (PairsAt w a L)) : Calls Tryd.prog 15 #[.slice a L.length cap, .string pre] w fun e w' => e = .returned (sb (spaceR L pre)) ∧ w' = w := by
  have hlen := hL.out.short
  unfold maxLen at hlen
  go_enter Tryd.func15, Tryd.ntmps15
  go_wp2
  go_loop [6] (fun t => ∃ k : Nat, k ≤ L.length ∧ t = .int .i64 ((k : Int) - 1) ∧ Hid (lastTo L pre L.length = lastTo L pre k)) (fun t => ((intOf t) + 1).toNat)
  case atStart => exact ⟨L.length, Nat.le_refl _, rfl, rfl⟩
  case round =>
    obtain ⟨k, hk, rfl, hla⟩ := hrel
    by_cases hlt : 0 < k
    · obtain ⟨i, rfl⟩ : ∃ i, k = i + 1 := ⟨k - 1, by omega⟩
      obtain ⟨b, off, ha, hblt, hc⟩ := hL.out.row (by omega)
      obtain ⟨hc1, hc2⟩ := hc i (by omega)
      have hyes := @last_yes L pre i
      have hno := @last_no L pre i
      have hst : spaceR L pre = _ := rfl
      have hss := @space_some L pre i
      subst ha
      generalize (at0 L i).1 = n at hc1 hyes hno
      generalize (at0 L i).2 = v at hc2 hss
      have ei : (((i + 1 : Nat) : Int) - 1) = (i : Int) := by omega
      rw [ei]
      have hilt : (i : Int) < L.length := by omega
      clear hc hst
      cases hq : (n.toList == pre.toList)
      · have HN : Hid (lastTo L pre L.length = lastTo L pre i) := by show _ = _; rw [hla.out, hno hq]
        clear hyes hno hss
        go_wp2
        go_round
        case rel => exact ⟨i, by omega, rfl, HN.out⟩
        case measure => simp [intOf]
      · have HF : Hid (spaceR L pre = (v, true)) := hss (by rw [hla.out, hyes hq])
        clear hyes hno hss
        go_wp2
        go_ret2
        exact ⟨ret_sb HF.out, rfl⟩
    · obtain rfl : k = 0 := by omega
      have HF : Hid (spaceR L pre = (⟨#[]⟩, pre.toList.isEmpty)) := space_none (by rw [hla.out]; rfl)
      go_wp2
      go_ret2
      exact ⟨ret_sb HF.out, rfl⟩
theorem spec_spaceH (L : List Pair) (pre x : ByteArray) (ok : Bool) (h : spaceR L pre = (x, ok)) (a : Option Addr) (cap : Nat) (w : World) (hL : PairsAt w a L) : Calls Tryd.prog 15 #[.slice a L.length cap, .string pre] w fun e w' => e = .returned (.tuple #[.string x, .bool ok]) ∧ w' = w := by
  have := spec_space a L cap pre w hL
  rw [h] at this
  exact this
set_option maxRecDepth 100000 in
set_option maxHeartbeats 4000000 in
theorem spec_pre (a : Option Addr) (L : List Pair) (cap : Nat) (uri : ByteArray) (bare : Bool) (w : World) (hL : Hid (PairsAt w a L)) : Calls Tryd.prog 13 #[.slice a L.length cap, .string uri, .bool bare] w fun e w' => e = .returned (sb (preR L uri bare)) ∧ w' = w := by
  have hlen := hL.out.short
  unfold maxLen at hlen
  obtain ⟨x0, ok0, hx0⟩ : ∃ x ok, spaceR L ⟨#[]⟩ = (x, ok) := ⟨_, _, rfl⟩
  have H0 : Hid (∀ (a : Option Addr) (cap : Nat) (w : World), _) := spec_spaceH L ⟨#[]⟩ x0 ok0 hx0
  have hbb : bareB L uri = (x0.toList == uri.toList) := by unfold bareB; rw [hx0]
  clear hx0
  have hways : (bare = true ∧ (x0.toList == uri.toList) = true ∧ preR L uri bare = (⟨#[]⟩, true)) ∨ (preR L uri bare = firstR L uri ∧ (bare = false ∨ bare = true ∧ (x0.toList == uri.toList) = false)) := by
    cases bare
    · exact .inr ⟨pre_named, .inl rfl⟩
    · cases hq : (x0.toList == uri.toList)
      · exact .inr ⟨pre_not (by rw [hbb, hq]), .inr ⟨rfl, rfl⟩⟩
      · exact .inl ⟨rfl, rfl, pre_bare (by rw [hbb, hq])⟩
  clear hbb
  rcases hways with ⟨rfl, hq, hF⟩ | ⟨hF, hw⟩
  · have HF : Hid _ := hF
    clear hF
    go_enter Tryd.func13, Tryd.ntmps13
    go_wp2_with (go_at_call 15; refine (H0.out _ _ _ hL.out).mono ?_; rintro e w1 ⟨rfl, hw1⟩; have hw2 := hw1.symm; clear hw1; subst hw2)
    go_ret2
    exact ⟨ret_sb HF.out, rfl⟩
  · have HF : Hid _ := hF
    clear hF
    rcases hw with rfl | ⟨rfl, hq⟩
    all_goals
      go_enter Tryd.func13, Tryd.ntmps13
      go_wp2_with (go_at_call 15; refine (H0.out _ _ _ hL.out).mono ?_; rintro e w1 ⟨rfl, hw1⟩; have hw2 := hw1.symm; clear hw1; subst hw2)
      go_loop [10] (fun t => ∃ i : Nat, i ≤ L.length ∧ t = .int .i64 i ∧ Hid (∀ j, j < i → hit L uri j = false)) (fun t => L.length - (intOf t).toNat)
      case atStart => exact ⟨0, Nat.zero_le _, rfl, fun j hj => by omega⟩
      case round =>
        obtain ⟨i, hi, rfl, hno⟩ := hrel
        by_cases hlt : i < L.length
        · obtain ⟨b, off, ha, hblt, hc⟩ := hL.out.row (by omega)
          obtain ⟨hc1, hc2⟩ := hc i hlt
          have hem := @hit_empty L uri i
          have hnx := @hits_next L uri i hno.out
          obtain ⟨x, ok, hx⟩ : ∃ x ok, spaceR L (at0 L i).1 = (x, ok) := ⟨_, _, rfl⟩
          have hS := spec_spaceH L (at0 L i).1 x ok hx
          have hhe := fun h => @hit_eq L uri x ok i h hx
          have hfs := @first_some L uri i hlt
          subst ha
          generalize (at0 L i).1 = n at hc1 hem hS hhe hfs
          clear hc hx
          cases he : n.toList.isEmpty
          · have hh := hhe he
            have HS : Hid (∀ (a : Option Addr) (cap : Nat) (w : World), _) := hS
            cases ok
            · have HNX : Hid _ := hnx (by rw [hh]; rfl)
              clear hem hhe hfs hS hnx hh
              go_wp2_with (go_at_call 15; refine (HS.out _ _ _ hL.out).mono ?_; rintro e w1 ⟨rfl, hw1⟩; have hw2 := hw1.symm; clear hw1; subst hw2)
              go_round
              case rel => exact ⟨i + 1, by omega, by go_num, HNX.out⟩
              case measure => simp [intOf]; omega
            · cases hu : (x.toList == uri.toList)
              · have HNX : Hid _ := hnx (by rw [hh, hu]; rfl)
                clear hem hhe hfs hS hnx hh
                go_wp2_with (go_at_call 15; refine (HS.out _ _ _ hL.out).mono ?_; rintro e w1 ⟨rfl, hw1⟩; have hw2 := hw1.symm; clear hw1; subst hw2)
                go_round
                case rel => exact ⟨i + 1, by omega, by go_num, HNX.out⟩
                case measure => simp [intOf]; omega
              · have HY : Hid _ := HF.out.trans (hfs (by rw [hh, hu]; rfl) hno.out)
                clear hem hhe hfs hS hnx hh
                go_wp2_with (go_at_call 15; refine (HS.out _ _ _ hL.out).mono ?_; rintro e w1 ⟨rfl, hw1⟩; have hw2 := hw1.symm; clear hw1; subst hw2)
                go_ret2
                exact ⟨ret_sb HY.out, rfl⟩
          · have HNX : Hid _ := hnx (hem he)
            clear hem hhe hfs hS hnx
            go_wp2
            go_round
            case rel => exact ⟨i + 1, by omega, by go_num, HNX.out⟩
            case measure => simp [intOf]; omega
        · have HY : Hid _ := HF.out.trans (first_none fun j hj => hno.out j (by omega))
          go_wp2
          go_ret2
          exact ⟨ret_sb HY.out, rfl⟩
end Go.Proofs.YtifeikodjinpdaaDoor.scopes
