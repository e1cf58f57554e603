/-
  What the program's PreFor answers.
-/
import Derived.Test.YtifeikodjinpdaaDoorImplScope
import Derived.Test.YtifeikodjinpdaaDoorScopeFacts
namespace Go.Proofs.YtifeikodjinpdaaDoor.scopes
open Go.ChangeShapes Go.WideShapes Go.ChangeAt Go.RowKit
open pairs (Pair at0 PairsAt)
set_option linter.unusedVariables false
def meansB (L : List Pair) (pre uri : ByteArray) : Bool := (spaceR L pre).2 && ((spaceR L pre).1.toList == uri.toList)
theorem means_bare (L : List Pair) (uri : ByteArray) : meansB L ⟨#[]⟩ uri = bareB L uri := by unfold meansB bareB; rw [space_empty, Bool.true_and]
theorem hit_means {L : List Pair} {uri : ByteArray} {i : Nat} (h : (at0 L i).1.toList.isEmpty = false) : hit L uri i = meansB L (at0 L i).1 uri := by unfold hit meansB; rw [h]; rfl
theorem impl_spaceH (L : List Pair) (pre x : ByteArray) (ok : Bool) (h : spaceR L pre = (x, ok)) (a : Option Addr) (cap : Nat) (w : World) (hL : PairsAt w a L) : Calls Tryd.prog 10 #[.slice a L.length cap, .string pre] w fun e w' => e = .returned (.tuple #[.string x, .bool ok]) ∧ Below w.heap.size w w' := by
  have := impl_space a L cap pre w hL
  rw [h] at this
  exact this
set_option maxRecDepth 100000 in
set_option maxHeartbeats 1000000 in
theorem impl_means (L : List Pair) (pre uri : ByteArray) (b : Bool) (h : meansB L pre uri = b) (a : Option Addr) (cap : Nat) (w : World) (hL : PairsAt w a L) : Calls Tryd.prog 34 #[.slice a L.length cap, .string pre, .string uri] w fun e w' => e = .returned (.bool b) ∧ Below w.heap.size w w' := by
  have HL : Hid _ := hL
  obtain ⟨x, ok, hx⟩ : ∃ x ok, spaceR L pre = (x, ok) := ⟨_, _, rfl⟩
  have HS : Hid (∀ (a : Option Addr) (cap : Nat) (w : World), _) := impl_spaceH L pre x ok hx
  have HM : Hid ((ok && (x.toList == uri.toList)) = b) := by show _ = _; rw [← h]; unfold meansB; rw [hx]
  clear hx h hL
  go_enter Tryd.func34, Tryd.ntmps34
  go_wp2_with fail
  refine (HS.out _ _ _ HL.out).mono ?_
  rintro e w1 ⟨rfl, hb1⟩
  have HB1 : Hid _ := hb1
  clear hb1
  cases ok
  · go_wp2
    go_ret
    exact ⟨ret_bool HM.out, HB1.out⟩
  · go_wp2
    go_ret
    exact ⟨ret_bool HM.out, HB1.out⟩
set_option maxRecDepth 100000 in
set_option maxHeartbeats 4000000 in
theorem impl_pre (a : Option Addr) (L : List Pair) (cap : Nat) (uri : ByteArray) (bare : Bool) (w : World) (hL : PairsAt w a L) : Calls Tryd.prog 12 #[.slice a L.length cap, .string uri, .bool bare] w fun e w' => e = .returned (sb (preR L uri bare)) ∧ Below w.heap.size w w' := by
  have HL : Hid _ := hL
  have hlen := hL.short
  unfold maxLen at hlen
  obtain ⟨b0, hb0⟩ : ∃ b, meansB L ⟨#[]⟩ uri = b := ⟨_, rfl⟩
  have H0 : Hid (∀ (a : Option Addr) (cap : Nat) (w : World), _) := impl_means L ⟨#[]⟩ uri b0 hb0
  have hways : (bare = true ∧ b0 = true ∧ preR L uri bare = (⟨#[]⟩, true)) ∨ (preR L uri bare = firstR L uri ∧ (bare = false ∨ bare = true ∧ b0 = false)) := by
    rw [means_bare] at hb0
    cases bare
    · exact .inr ⟨pre_named, .inl rfl⟩
    · cases b0
      · exact .inr ⟨pre_not hb0, .inr ⟨rfl, rfl⟩⟩
      · exact .inl ⟨rfl, rfl, pre_bare hb0⟩
  clear hb0 hL
  rcases hways with ⟨rfl, rfl, hF⟩ | ⟨hF, hw⟩
  · have HF : Hid _ := hF
    clear hF
    go_enter Tryd.func12, Tryd.ntmps12
    go_wp2_with fail
    refine (H0.out _ _ _ HL.out).mono ?_
    rintro e w1 ⟨rfl, hb1⟩
    have HB1 : Hid _ := hb1
    clear hb1
    go_wp2
    go_ret2
    exact ⟨ret_sb HF.out, HB1.out⟩
  · have HF : Hid _ := hF
    clear hF
    go_enter Tryd.func12, Tryd.ntmps12
    rcases hw with rfl | ⟨rfl, rfl⟩
    · have HB1 : Hid (Below w.heap.size w w) := Below.refl _ _
      go_wp2
      go_loopw [18] (fun t wr => ∃ i : Nat, i ≤ L.length ∧ t = .int .i64 i ∧ Hid (∀ j, j < i → hit L uri j = false) ∧ Hid (Below w.heap.size w wr)) (fun t _ => L.length - (intOf t).toNat)
      case atStart => exact ⟨0, Nat.zero_le _, rfl, (fun j hj => by omega), HB1.out⟩
      case round =>
        obtain ⟨i, hi, rfl, hno, hbw⟩ := hrel
        by_cases hlt : i < L.length
        · obtain ⟨b, off, ha, hblt, hc⟩ := (HL.out.below (Nat.le_refl _) hbw.out).row (by omega)
          obtain ⟨hc1, hc2⟩ := hc i hlt
          have hem := @hit_empty L uri i
          have hnx := @hits_next L uri i hno.out
          obtain ⟨m, hm⟩ : ∃ m, meansB L (at0 L i).1 uri = m := ⟨_, rfl⟩
          have hM := impl_means L (at0 L i).1 uri m hm
          have hhm := @hit_means L uri i
          rw [hm] at hhm
          have hfs := @first_some L uri i hlt
          have HLw : Hid _ := HL.out.below (Nat.le_refl _) hbw.out
          subst ha
          generalize (at0 L i).1 = n at hc1 hem hM hhm hfs
          generalize (at0 L i).2 = v at hc2
          clear hc hm
          have HBN : Hid (∀ W, Below (wr.alloc (.cells #[.string n, .string v] 38)).heap.size (wr.alloc (.cells #[.string n, .string v] 38)) W → Below w.heap.size w W) := fun W h => hbw.out.trans ((((Below.refl _ _).alloc (Nat.le_refl _) _).trans (h.mono (by simp))).mono hbw.out.size)
          cases he : n.toList.isEmpty
          · have HM : Hid (∀ (a : Option Addr) (cap : Nat) (w : World), _) := hM
            have hh := hhm he
            cases m
            · have HNX : Hid _ := hnx hh
              clear hem hhm hfs hM hnx hh
              go_wp2_with fail
              refine (HM.out _ _ _ (HLw.out.below (Nat.le_refl _) ((Below.refl _ _).alloc (Nat.le_refl _) _))).mono ?_
              rintro e w2 ⟨rfl, hb2⟩
              have HB2 : Hid _ := HBN.out _ hb2
              clear hb2
              go_wp2
              go_roundw
              case rel => exact ⟨i + 1, by omega, by go_num, HNX.out, HB2.out⟩
              case measure => simp [intOf]; omega
            · have HY : Hid _ := HF.out.trans (hfs hh hno.out)
              clear hem hhm hfs hM hnx hh
              go_wp2_with fail
              refine (HM.out _ _ _ (HLw.out.below (Nat.le_refl _) ((Below.refl _ _).alloc (Nat.le_refl _) _))).mono ?_
              rintro e w2 ⟨rfl, hb2⟩
              have HB2 : Hid _ := HBN.out _ hb2
              have hd1 : w2.cell? ⟨wr.heap.size, 0, none⟩ = some (.string n) := (hb2.cell (p := ⟨wr.heap.size, 0, none⟩) (by simp)).trans (pairs.cell_new wr _ _ 0 _ rfl)
              clear hb2
              go_wp2
              go_ret2
              exact ⟨ret_sb HY.out, HB2.out⟩
          · have HNX : Hid _ := hnx (hem he)
            clear hem hhm hfs hM hnx
            go_wp2
            go_roundw
            case rel => exact ⟨i + 1, by omega, by go_num, HNX.out, hbw.out.alloc hbw.out.size _⟩
            case measure => simp [intOf]; omega
        · have HY : Hid _ := HF.out.trans (first_none fun j hj => hno.out j (by omega))
          go_wp2
          go_ret2
          exact ⟨ret_sb HY.out, hbw.out⟩
    · go_wp2_with fail
      refine (H0.out _ _ _ HL.out).mono ?_
      rintro e w1 ⟨rfl, hb1⟩
      have HB1 : Hid _ := hb1
      clear hb1
      go_wp2
      go_loopw [18] (fun t wr => ∃ i : Nat, i ≤ L.length ∧ t = .int .i64 i ∧ Hid (∀ j, j < i → hit L uri j = false) ∧ Hid (Below w.heap.size w wr)) (fun t _ => L.length - (intOf t).toNat)
      case atStart => exact ⟨0, Nat.zero_le _, rfl, (fun j hj => by omega), HB1.out⟩
      case round =>
        obtain ⟨i, hi, rfl, hno, hbw⟩ := hrel
        by_cases hlt : i < L.length
        · obtain ⟨b, off, ha, hblt, hc⟩ := (HL.out.below (Nat.le_refl _) hbw.out).row (by omega)
          obtain ⟨hc1, hc2⟩ := hc i hlt
          have hem := @hit_empty L uri i
          have hnx := @hits_next L uri i hno.out
          obtain ⟨m, hm⟩ : ∃ m, meansB L (at0 L i).1 uri = m := ⟨_, rfl⟩
          have hM := impl_means L (at0 L i).1 uri m hm
          have hhm := @hit_means L uri i
          rw [hm] at hhm
          have hfs := @first_some L uri i hlt
          have HLw : Hid _ := HL.out.below (Nat.le_refl _) hbw.out
          subst ha
          generalize (at0 L i).1 = n at hc1 hem hM hhm hfs
          generalize (at0 L i).2 = v at hc2
          clear hc hm
          have HBN : Hid (∀ W, Below (wr.alloc (.cells #[.string n, .string v] 38)).heap.size (wr.alloc (.cells #[.string n, .string v] 38)) W → Below w.heap.size w W) := fun W h => hbw.out.trans ((((Below.refl _ _).alloc (Nat.le_refl _) _).trans (h.mono (by simp))).mono hbw.out.size)
          cases he : n.toList.isEmpty
          · have HM : Hid (∀ (a : Option Addr) (cap : Nat) (w : World), _) := hM
            have hh := hhm he
            cases m
            · have HNX : Hid _ := hnx hh
              clear hem hhm hfs hM hnx hh
              go_wp2_with fail
              refine (HM.out _ _ _ (HLw.out.below (Nat.le_refl _) ((Below.refl _ _).alloc (Nat.le_refl _) _))).mono ?_
              rintro e w2 ⟨rfl, hb2⟩
              have HB2 : Hid _ := HBN.out _ hb2
              clear hb2
              go_wp2
              go_roundw
              case rel => exact ⟨i + 1, by omega, by go_num, HNX.out, HB2.out⟩
              case measure => simp [intOf]; omega
            · have HY : Hid _ := HF.out.trans (hfs hh hno.out)
              clear hem hhm hfs hM hnx hh
              go_wp2_with fail
              refine (HM.out _ _ _ (HLw.out.below (Nat.le_refl _) ((Below.refl _ _).alloc (Nat.le_refl _) _))).mono ?_
              rintro e w2 ⟨rfl, hb2⟩
              have HB2 : Hid _ := HBN.out _ hb2
              have hd1 : w2.cell? ⟨wr.heap.size, 0, none⟩ = some (.string n) := (hb2.cell (p := ⟨wr.heap.size, 0, none⟩) (by simp)).trans (pairs.cell_new wr _ _ 0 _ rfl)
              clear hb2
              go_wp2
              go_ret2
              exact ⟨ret_sb HY.out, HB2.out⟩
          · have HNX : Hid _ := hnx (hem he)
            clear hem hhm hfs hM hnx
            go_wp2
            go_roundw
            case rel => exact ⟨i + 1, by omega, by go_num, HNX.out, hbw.out.alloc hbw.out.size _⟩
            case measure => simp [intOf]; omega
        · have HY : Hid _ := HF.out.trans (first_none fun j hj => hno.out j (by omega))
          go_wp2
          go_ret2
          exact ⟨ret_sb HY.out, hbw.out⟩
end Go.Proofs.YtifeikodjinpdaaDoor.scopes
