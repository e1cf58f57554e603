/-
  DERIVED. GIVEN WITH THE SEED: THE CARDS: each row of YtdojkaboejndiaaDoorRows.lean that lists a variable, with what it lists TIED to the program's text (the seventh form; the later family's looks); each row that meets fmt, with fmt's text TOLD by the authors' own Lean function (tested against real Go, not proved from fmt's source: count such statements apart). THE CARD IS WHAT COUNTS. Prove the row's statement (the work); the ties are given (YtdojkaboejndiaaDoorTie.lean); close each card by the builder's one call (the guide's Derived/Test/ToyasCard.lean, 'card_holds'). Laid BY PROGRAM, IN A SANDBOX (cutbox-door.mjs). By AI agents, Wed Nov 11 2026. No macro, syntax, notation, axiom, sorry.
-/
import Derived.Test.YtdojkaboejndiaaDoorRows
import GoSem.ClaimSeven
namespace Go.Proofs.YtdojkaboejndiaaDoor
namespace Rows

/-- THE TIED CARD OF 'laws.FnNorms'. -/
def fnNormsCard : Claim7 := { stood := { row := fnNormsRow, standIns := [], harness := (true, "49ef39777f0a75594d3b932444f3c6bbac17aa5ce5e8a30e8a7c0152a94f19a9"), looks := true }, kinds := [], alts := [], laidByText := true, laidKinds := [.data, .pinned], laidTests := true, laidLooks := .later }
def FnNormsCardSaid : Prop := Claim7.holds Tryd.pinned (.plain (OpenSpec.ofChange fnNormsSpec)) fnNormsCard

/-- THE TIED CARD OF 'laws.FnExactEntsOk'. -/
def fnExactEntsOkCard : Claim7 := { stood := { row := fnExactEntsOkRow, standIns := [], harness := (true, "49ef39777f0a75594d3b932444f3c6bbac17aa5ce5e8a30e8a7c0152a94f19a9"), looks := true }, kinds := [], alts := [], laidByText := true, laidKinds := [.data, .data, .data, .data, .data, .pinned], laidTests := true, laidLooks := .later }
def FnExactEntsOkCardSaid : Prop := Claim7.holds Tryd.pinned (.plain (OpenSpec.ofChange fnExactEntsOkSpec)) fnExactEntsOkCard

/-- THE TIED CARD OF 'laws.FnExactExpand'. -/
def fnExactExpandCard : Claim7 := { stood := { row := fnExactExpandRow, standIns := [], harness := (true, "49ef39777f0a75594d3b932444f3c6bbac17aa5ce5e8a30e8a7c0152a94f19a9"), looks := true }, kinds := [], alts := [], laidByText := true, laidKinds := [.data, .data, .data, .data, .sentinel, .sentinel, .data, .data, .data, .data, .pinned], laidTests := true, laidLooks := .later }
def FnExactExpandCardSaid : Prop := Claim7.holds Tryd.pinned (.plain (OpenSpec.ofChange fnExactExpandSpec)) fnExactExpandCard

/-- THE SECOND FORM's CARD OF 'laws.FnNorms'. -/
def fnNormsUptoCard : Claim7 := { stood := { row := fnNormsUptoRow, standIns := [], harness := (true, "49ef39777f0a75594d3b932444f3c6bbac17aa5ce5e8a30e8a7c0152a94f19a9"), looks := true }, kinds := [], alts := [], laidByText := true, laidKinds := [.data, .pinned], laidTests := true, laidLooks := .later }
def FnNormsUptoCardSaid : Prop := Claim7.holds Tryd.pinned (.plain (OpenSpec.upto fnNormsSpec)) fnNormsUptoCard

/-- THE SECOND FORM's CARD OF 'laws.FnExactEntsOk'. -/
def fnExactEntsOkUptoCard : Claim7 := { stood := { row := fnExactEntsOkUptoRow, standIns := [], harness := (true, "49ef39777f0a75594d3b932444f3c6bbac17aa5ce5e8a30e8a7c0152a94f19a9"), looks := true }, kinds := [], alts := [], laidByText := true, laidKinds := [.data, .data, .data, .data, .data, .pinned], laidTests := true, laidLooks := .later }
def FnExactEntsOkUptoCardSaid : Prop := Claim7.holds Tryd.pinned (.plain (OpenSpec.upto fnExactEntsOkSpec)) fnExactEntsOkUptoCard

/-- THE SECOND FORM's CARD OF 'laws.FnExactExpand'. -/
def fnExactExpandUptoCard : Claim7 := { stood := { row := fnExactExpandUptoRow, standIns := [], harness := (true, "49ef39777f0a75594d3b932444f3c6bbac17aa5ce5e8a30e8a7c0152a94f19a9"), looks := true }, kinds := [], alts := [], laidByText := true, laidKinds := [.data, .data, .data, .data, .sentinel, .sentinel, .data, .data, .data, .data, .pinned], laidTests := true, laidLooks := .later }
def FnExactExpandUptoCardSaid : Prop := Claim7.holds Tryd.pinned (.plain (OpenSpec.upto fnExactExpandSpec)) fnExactExpandUptoCard
end Rows
end Go.Proofs.YtdojkaboejndiaaDoor
