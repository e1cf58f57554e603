/-
  What the program's PreFor answers.
-/
import Derived.Test.YtglcjaedmmknpaaGreatDoorImplScope
import Derived.Test.YtglcjaedmmknpaaGreatDoorScopeFacts
namespace Go.Proofs.YtglcjaedmmknpaaGreatDoor.scopes
open Go.ChangeShapes Go.WideShapes Go.ChangeAt Go.RowKit
open pairs (Pair at0 PairsAt)
set_option linter.unusedVariables false
def meansB (L : List Pair) (pre uri : ByteArray) : Bool := (spaceR L pre).2 && ((spaceR L pre).1.toList == uri.toList)
theorem means_bare (L : List Pair) (uri : ByteArray) : meansB L ⟨#[]⟩ uri = bareB L uri := by unfold meansB bareB; rw [space_empty, Bool.true_and]
theorem hit_means {L : List Pair} {uri : ByteArray} {i : Nat} (h : (at0 L i).1.toList.isEmpty = false) : hit L uri i = meansB L (at0 L i).1 uri := by unfold hit meansB; rw [h]; rfl
theorem impl_spaceH (L : List Pair) (pre x : ByteArray) (ok : Bool) (h : spaceR L pre = (x, ok)) (a : Option Addr) (cap : Nat) (w : World) (hL : PairsAt w a L) : Calls Tryz.prog 40 #[.slice a L.length cap, .string pre] w fun e w' => e = .returned (.tuple #[.string x, .bool ok]) ∧ Below w.heap.size w w' := by
  have := impl_space a L cap pre w hL
  rw [h] at this
  exact this
set_option maxRecDepth 100000 in
set_option maxHeartbeats 1000000 in
theorem impl_means (L : List Pair) (pre uri : ByteArray) (b : Bool) (h : meansB L pre uri = b) (a : Option Addr) (cap : Nat) (w : World) (hL : PairsAt w a L) : Calls Tryz.prog 34 #[.slice a L.length cap, .string pre, .string uri] w fun e w' => e = .returned (.bool b) ∧ Below w.heap.size w w' := by
  have HL : Hid _ := hL
  obtain ⟨x, ok, hx⟩ : ∃ x ok, spaceR L pre = (x, ok) := ⟨_, _, rfl⟩
  have HS : Hid (∀ (a : Option Addr) (cap : Nat) (w : World), _) := impl_spaceH L pre x ok hx
  have HM : Hid ((ok && (x.toList == uri.toList)) = b) := by show _ = _; rw [← h]; unfold meansB; rw [hx]
  clear hx h hL
  go_enter Tryz.func34, Tryz.ntmps34
  go_wp2_with fail
  refine (HS.out _ _ _ HL.out).mono ?_
  rintro e w1 ⟨rfl, hb1⟩
  have HB1 : Hid _ := hb1
  clear hb1
  cases ok
  · go_wp2
    go_ret
    exact ⟨ret_bool HM.out, HB1.out⟩
  · go_wp2
    go_ret
    exact ⟨ret_bool HM.out, HB1.out⟩
end Go.Proofs.YtglcjaedmmknpaaGreatDoor.scopes
