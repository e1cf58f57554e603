/-
  DERIVED. GIVEN WITH THE SEED: THE CARDS: each row of YtehdpkigfjjbaaaGreatDoorRows.lean that lists a variable, with what it lists TIED to the program's text (the seventh form; the later family's looks); each row that meets fmt, with fmt's text TOLD by the authors' own Lean function (tested against real Go, not proved from fmt's source: count such statements apart). THE CARD IS WHAT COUNTS. Prove the row's statement (the work); the ties are given (YtehdpkigfjjbaaaGreatDoorTie.lean); close each card by the builder's one call (the guide's Derived/Test/ToyasCard.lean, 'card_holds'). Laid BY PROGRAM, IN A SANDBOX (cutbox-door.mjs). By AI agents, Wed Nov 11 2026. No macro, syntax, notation, axiom, sorry.
-/
import Derived.Test.YtehdpkigfjjbaaaGreatDoorRows
import GoSem.ClaimSeven
namespace Go.Proofs.YtehdpkigfjjbaaaGreatDoor
namespace Rows

/-- THE TIED CARD OF 'laws.FnExactMarkAt'. -/
def fnExactMarkAtCard : Claim7 := { stood := { row := fnExactMarkAtRow, standIns := [], harness := (true, "0974b1ebf9d8929b34a1f47904d9be213e86498a9a41d2f50a39ba2efaddd9fb"), looks := true }, kinds := [], alts := [], laidByText := true, laidKinds := [.data, .data, .data, .data, .sentinel, .sentinel, .data, .data, .data, .data, .pinned], laidTests := true, laidLooks := .later }
def FnExactMarkAtCardSaid : Prop := Claim7.holds Tryz.pinned (.plain (OpenSpec.ofChange fnExactMarkAtSpec)) fnExactMarkAtCard

/-- THE SECOND FORM's CARD OF 'laws.FnExactMarkAt'. -/
def fnExactMarkAtUptoCard : Claim7 := { stood := { row := fnExactMarkAtUptoRow, standIns := [], harness := (true, "0974b1ebf9d8929b34a1f47904d9be213e86498a9a41d2f50a39ba2efaddd9fb"), looks := true }, kinds := [], alts := [], laidByText := true, laidKinds := [.data, .data, .data, .data, .sentinel, .sentinel, .data, .data, .data, .data, .pinned], laidTests := true, laidLooks := .later }
def FnExactMarkAtUptoCardSaid : Prop := Claim7.holds Tryz.pinned (.plain (OpenSpec.upto fnExactMarkAtSpec)) fnExactMarkAtUptoCard
end Rows
end Go.Proofs.YtehdpkigfjjbaaaGreatDoor
