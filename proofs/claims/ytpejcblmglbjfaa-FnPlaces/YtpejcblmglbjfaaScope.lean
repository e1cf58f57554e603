/-
  What the specification's SpaceOf, PreFor and Inner answer.
-/
import Derived.Test.YtpejcblmglbjfaaScopeP
import Derived.Test.YtpejcblmglbjfaaPairOwnDecl
import Derived.Deep.QuietTactic
import Derived.BigQuiet
namespace Go.Proofs.Ytpejcblmglbjfaa.scopes
open Go.ChangeShapes Go.WideShapes Go.ChangeAt Go.RowKit
open pairs (Pair at0 PairsAt)
set_option linter.unusedVariables false
set_option maxRecDepth 100000 in
set_option maxHeartbeats 2000000 in
theorem spec_space (a : Option Addr) (L : List Pair) (cap : Nat) (pre : ByteArray) (w : World) (hL : Hid (PairsAt w a L)) : Calls Try.prog 100 #[.slice a L.length cap, .string pre] w fun e w' => e = .returned (sb (spaceR L pre)) ∧ w' = w := by
  have hlen := hL.out.short
  unfold maxLen at hlen
  go_enter Try.func100, Try.ntmps100
  go_wp2
  go_loop [6] (fun t => ∃ k : Nat, k ≤ L.length ∧ t = .int .i64 ((k : Int) - 1) ∧ Hid (lastTo L pre L.length = lastTo L pre k)) (fun t => ((intOf t) + 1).toNat)
  case atStart => exact ⟨L.length, Nat.le_refl _, rfl, rfl⟩
  case round =>
    obtain ⟨k, hk, rfl, hla⟩ := hrel
    by_cases hlt : 0 < k
    · obtain ⟨i, rfl⟩ : ∃ i, k = i + 1 := ⟨k - 1, by omega⟩
      obtain ⟨b, off, ha, hblt, hc⟩ := hL.out.row (by omega)
      obtain ⟨hc1, hc2⟩ := hc i (by omega)
      have hyes := @last_yes L pre i
      have hno := @last_no L pre i
      have hst : spaceR L pre = _ := rfl
      have hss := @space_some L pre i
      subst ha
      generalize (at0 L i).1 = n at hc1 hyes hno
      generalize (at0 L i).2 = v at hc2 hss
      have ei : (((i + 1 : Nat) : Int) - 1) = (i : Int) := by omega
      rw [ei]
      have hilt : (i : Int) < L.length := by omega
      clear hc hst
      cases hq : (n.toList == pre.toList)
      · have HN : Hid (lastTo L pre L.length = lastTo L pre i) := by show _ = _; rw [hla.out, hno hq]
        clear hyes hno hss
        go_wp2
        go_round
        case rel => exact ⟨i, by omega, rfl, HN.out⟩
        case measure => simp [intOf]
      · have HF : Hid (spaceR L pre = (v, true)) := hss (by rw [hla.out, hyes hq])
        clear hyes hno hss
        go_wp2
        go_ret2
        exact ⟨ret_sb HF.out, rfl⟩
    · obtain rfl : k = 0 := by omega
      have HF : Hid (spaceR L pre = (⟨#[]⟩, pre.toList.isEmpty)) := space_none (by rw [hla.out]; rfl)
      go_wp2
      go_ret2
      exact ⟨ret_sb HF.out, rfl⟩
theorem spec_spaceH (L : List Pair) (pre x : ByteArray) (ok : Bool) (h : spaceR L pre = (x, ok)) (a : Option Addr) (cap : Nat) (w : World) (hL : PairsAt w a L) : Calls Try.prog 100 #[.slice a L.length cap, .string pre] w fun e w' => e = .returned (.tuple #[.string x, .bool ok]) ∧ w' = w := by
  have := spec_space a L cap pre w hL
  rw [h] at this
  exact this
/-! ### One behind the other: a row of the call's own -/
set_option maxRecDepth 100000 in
set_option maxHeartbeats 2000000 in
theorem spec_inner (a a' : Option Addr) (L M : List Pair) (cap cap' : Nat) (w : World) (hL : Hid (PairsAt w a L)) (hM : Hid (PairsAt w a' M)) (hz : L.length + M.length ≤ 4000000) :
    Calls Try.prog 99 #[.slice a L.length cap, .slice a' M.length cap'] w fun e w' => (∃ v, e = .returned v ∧ pairs.OwnP 84 w' w.heap.size v (L ++ M) ∧ v ≠ .slice none 0 0) ∧ Below w.heap.size w w' := by
  have HZ : Hid _ := hz
  clear hz
  go_enter Try.func99, Try.ntmps99
  go_wp2_with (first
    | (at_builtin; refine pairs.app_Decl w.heap.size _ ([] ++ L) M a' cap' ho1 (hM.out.below (Nat.le_refl _) (((Below.refl _ _).alloc (Nat.le_refl _) _).trans hb1)) HZ.out (Nat.le_trans (by simp) hb1.size) hv1 (by rfl) _ _ (by rfl) (by rfl) (by rfl) ?_; rintro v2 w2 ho2 hb2 hv2)
    | (at_builtin; refine pairs.app_Decl w.heap.size _ [] L a cap (pairs.new_Decl w _ (Nat.le_refl _)) (hL.out.below (Nat.le_refl _) ((Below.refl _ _).alloc (Nat.le_refl _) _)) (by have := HZ.out; simp; omega) (by simp) (by simp) (by rfl) _ _ (by rfl) (by rfl) (by rfl) ?_; rintro v1 w1 ho1 hb1 hv1))
  go_ret
  exact ⟨⟨_, rfl, ho2, hv2⟩, (((Below.refl _ _).alloc (Nat.le_refl _) _).trans hb1).trans hb2⟩
end Go.Proofs.Ytpejcblmglbjfaa.scopes
