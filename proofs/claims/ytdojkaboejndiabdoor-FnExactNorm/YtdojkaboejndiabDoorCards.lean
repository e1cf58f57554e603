/-
  DERIVED. GIVEN WITH THE SEED: THE CARDS: each row of YtdojkaboejndiabDoorRows.lean that lists a variable, with what it lists TIED to the program's text (the seventh form; the later family's looks); each row that meets fmt, with fmt's text TOLD by the authors' own Lean function (tested against real Go, not proved from fmt's source: count such statements apart). THE CARD IS WHAT COUNTS. Prove the row's statement (the work); the ties are given (YtdojkaboejndiabDoorTie.lean); close each card by the builder's one call (the guide's Derived/Test/ToyasCard.lean, 'card_holds'). Laid BY PROGRAM, IN A SANDBOX (cutbox-door.mjs). By AI agents, Wed Nov 11 2026. No macro, syntax, notation, axiom, sorry.
-/
import Derived.Test.YtdojkaboejndiabDoorRows
import GoSem.ClaimSeven
namespace Go.Proofs.YtdojkaboejndiabDoor
namespace Rows

/-- THE TIED CARD OF 'laws.FnExactNorm'. -/
def fnExactNormCard : Claim7 := { stood := { row := fnExactNormRow, standIns := [], harness := (true, "029eaa1c4bc3991b3497a0df91514453ad1d2a6cc60b98cd392745b26b6723b7"), looks := false }, kinds := [], alts := [], laidByText := true, laidKinds := [.data, .pinned], laidTests := true, laidLooks := .later }
def FnExactNormCardSaid : Prop := Claim7.holds Tryd.pinned (.plain (OpenSpec.ofChange fnExactNormSpec)) fnExactNormCard

/-- THE SECOND FORM's CARD OF 'laws.FnExactNorm'. -/
def fnExactNormUptoCard : Claim7 := { stood := { row := fnExactNormUptoRow, standIns := [], harness := (true, "029eaa1c4bc3991b3497a0df91514453ad1d2a6cc60b98cd392745b26b6723b7"), looks := false }, kinds := [], alts := [], laidByText := true, laidKinds := [.data, .pinned], laidTests := true, laidLooks := .later }
def FnExactNormUptoCardSaid : Prop := Claim7.holds Tryd.pinned (.plain (OpenSpec.upto fnExactNormSpec)) fnExactNormUptoCard
end Rows
end Go.Proofs.YtdojkaboejndiabDoor
