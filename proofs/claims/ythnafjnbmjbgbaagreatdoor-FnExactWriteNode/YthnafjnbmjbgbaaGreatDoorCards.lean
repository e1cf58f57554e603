/-
  DERIVED. GIVEN WITH THE SEED: THE CARDS: each row of YthnafjnbmjbgbaaGreatDoorRows.lean that lists a variable, with what it lists TIED to the program's text (the seventh form; the later family's looks); each row that meets fmt, with fmt's text TOLD by the authors' own Lean function (tested against real Go, not proved from fmt's source: count such statements apart). THE CARD IS WHAT COUNTS. Prove the row's statement (the work); the ties are given (YthnafjnbmjbgbaaGreatDoorTie.lean); close each card by the builder's one call (the guide's Derived/Test/ToyasCard.lean, 'card_holds'). Laid BY PROGRAM, IN A SANDBOX (cutbox-door.mjs). By AI agents, Wed Nov 11 2026. No macro, syntax, notation, axiom, sorry.
-/
import Derived.Test.YthnafjnbmjbgbaaGreatDoorRows
import GoSem.ClaimSeven
namespace Go.Proofs.YthnafjnbmjbgbaaGreatDoor
namespace Rows

/-- THE TIED CARD OF 'laws.FnExactWriteNode'. -/
def fnExactWriteNodeCard : Claim7 := { stood := { row := fnExactWriteNodeRow, standIns := [], harness := (true, "bd635121106a8b58aab6aaa2ab8f1c3c425ea84164738ba5ef5fea49ceb7ab3a"), looks := true }, kinds := [], alts := [], laidByText := true, laidKinds := [.data, .data, .data, .data, .data, .data, .pinned, .pinned], laidTests := true, laidLooks := .later }
def FnExactWriteNodeCardSaid : Prop := Claim7.holds Tryz.pinned (.plain (OpenSpec.ofChange fnExactWriteNodeSpec)) fnExactWriteNodeCard

/-- THE SECOND FORM's CARD OF 'laws.FnExactWriteNode'. -/
def fnExactWriteNodeUptoCard : Claim7 := { stood := { row := fnExactWriteNodeUptoRow, standIns := [], harness := (true, "bd635121106a8b58aab6aaa2ab8f1c3c425ea84164738ba5ef5fea49ceb7ab3a"), looks := true }, kinds := [], alts := [], laidByText := true, laidKinds := [.data, .data, .data, .data, .data, .data, .pinned, .pinned], laidTests := true, laidLooks := .later }
def FnExactWriteNodeUptoCardSaid : Prop := Claim7.holds Tryz.pinned (.plain (OpenSpec.upto fnExactWriteNodeSpec)) fnExactWriteNodeUptoCard
end Rows
end Go.Proofs.YthnafjnbmjbgbaaGreatDoor
