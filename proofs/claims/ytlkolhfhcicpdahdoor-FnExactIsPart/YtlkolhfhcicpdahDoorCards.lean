/-
  DERIVED. GIVEN WITH THE SEED: THE CARDS: each row of YtlkolhfhcicpdahDoorRows.lean that lists a variable, with what it lists TIED to the program's text (the seventh form; the later family's looks); each row that meets fmt, with fmt's text TOLD by the authors' own Lean function (tested against real Go, not proved from fmt's source: count such statements apart). THE CARD IS WHAT COUNTS. Prove the row's statement (the work); the ties are given (YtlkolhfhcicpdahDoorTie.lean); close each card by the builder's one call (the guide's Derived/Test/ToyasCard.lean, 'card_holds'). Laid BY PROGRAM, IN A SANDBOX (cutbox-door.mjs). By AI agents, Wed Nov 11 2026. No macro, syntax, notation, axiom, sorry.
-/
import Derived.Test.YtlkolhfhcicpdahDoorRows
import GoSem.ClaimSeven
namespace Go.Proofs.YtlkolhfhcicpdahDoor
namespace Rows

/-- THE TIED CARD OF 'laws.FnExactIsSign'. -/
def fnExactIsSignCard : Claim7 := { stood := { row := fnExactIsSignRow, standIns := [], harness := (true, "5d94652d1b8d4f0db5bbb4388458fecdf0fbf9b372c867b60bf96b6bc10e9e4a"), looks := false }, kinds := [], alts := [], laidByText := true, laidKinds := [.data], laidTests := true, laidLooks := .later }
def FnExactIsSignCardSaid : Prop := Claim7.holds Tryd.pinned (.plain (OpenSpec.ofChange fnExactIsSignSpec)) fnExactIsSignCard

/-- THE TIED CARD OF 'laws.FnExactIsStart'. -/
def fnExactIsStartCard : Claim7 := { stood := { row := fnExactIsStartRow, standIns := [], harness := (true, "5d94652d1b8d4f0db5bbb4388458fecdf0fbf9b372c867b60bf96b6bc10e9e4a"), looks := false }, kinds := [], alts := [], laidByText := true, laidKinds := [.data], laidTests := true, laidLooks := .later }
def FnExactIsStartCardSaid : Prop := Claim7.holds Tryd.pinned (.plain (OpenSpec.ofChange fnExactIsStartSpec)) fnExactIsStartCard

/-- THE TIED CARD OF 'laws.FnExactIsPart'. -/
def fnExactIsPartCard : Claim7 := { stood := { row := fnExactIsPartRow, standIns := [], harness := (true, "5d94652d1b8d4f0db5bbb4388458fecdf0fbf9b372c867b60bf96b6bc10e9e4a"), looks := false }, kinds := [], alts := [], laidByText := true, laidKinds := [.data, .data], laidTests := true, laidLooks := .later }
def FnExactIsPartCardSaid : Prop := Claim7.holds Tryd.pinned (.plain (OpenSpec.ofChange fnExactIsPartSpec)) fnExactIsPartCard

/-- THE SECOND FORM's CARD OF 'laws.FnExactIsSign'. -/
def fnExactIsSignUptoCard : Claim7 := { stood := { row := fnExactIsSignUptoRow, standIns := [], harness := (true, "5d94652d1b8d4f0db5bbb4388458fecdf0fbf9b372c867b60bf96b6bc10e9e4a"), looks := false }, kinds := [], alts := [], laidByText := true, laidKinds := [.data], laidTests := true, laidLooks := .later }
def FnExactIsSignUptoCardSaid : Prop := Claim7.holds Tryd.pinned (.plain (OpenSpec.upto fnExactIsSignSpec)) fnExactIsSignUptoCard

/-- THE SECOND FORM's CARD OF 'laws.FnExactIsStart'. -/
def fnExactIsStartUptoCard : Claim7 := { stood := { row := fnExactIsStartUptoRow, standIns := [], harness := (true, "5d94652d1b8d4f0db5bbb4388458fecdf0fbf9b372c867b60bf96b6bc10e9e4a"), looks := false }, kinds := [], alts := [], laidByText := true, laidKinds := [.data], laidTests := true, laidLooks := .later }
def FnExactIsStartUptoCardSaid : Prop := Claim7.holds Tryd.pinned (.plain (OpenSpec.upto fnExactIsStartSpec)) fnExactIsStartUptoCard

/-- THE SECOND FORM's CARD OF 'laws.FnExactIsPart'. -/
def fnExactIsPartUptoCard : Claim7 := { stood := { row := fnExactIsPartUptoRow, standIns := [], harness := (true, "5d94652d1b8d4f0db5bbb4388458fecdf0fbf9b372c867b60bf96b6bc10e9e4a"), looks := false }, kinds := [], alts := [], laidByText := true, laidKinds := [.data, .data], laidTests := true, laidLooks := .later }
def FnExactIsPartUptoCardSaid : Prop := Claim7.holds Tryd.pinned (.plain (OpenSpec.upto fnExactIsPartSpec)) fnExactIsPartUptoCard
end Rows
end Go.Proofs.YtlkolhfhcicpdahDoor
