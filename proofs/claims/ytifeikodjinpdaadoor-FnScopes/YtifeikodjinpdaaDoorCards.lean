/-
  DERIVED. GIVEN WITH THE SEED: THE CARDS: each row of YtifeikodjinpdaaDoorRows.lean that lists a variable, with what it lists TIED to the program's text (the seventh form; the later family's looks); each row that meets fmt, with fmt's text TOLD by the authors' own Lean function (tested against real Go, not proved from fmt's source: count such statements apart). THE CARD IS WHAT COUNTS. Prove the row's statement (the work); the ties are given (YtifeikodjinpdaaDoorTie.lean); close each card by the builder's one call (the guide's Derived/Test/ToyasCard.lean, 'card_holds'). Laid BY PROGRAM, IN A SANDBOX (cutbox-door.mjs). By AI agents, Wed Nov 11 2026. No macro, syntax, notation, axiom, sorry.
-/
import Derived.Test.YtifeikodjinpdaaDoorRows
import GoSem.ClaimSeven
namespace Go.Proofs.YtifeikodjinpdaaDoor
namespace Rows

/-- THE TIED CARD OF 'laws.FnScopes'. -/
def fnScopesCard : Claim7 := { stood := { row := fnScopesRow, standIns := [], harness := (true, "8deed0293e383f8c2b00f8cf66d9d7961305000dfbac32ef5505b2f2c9346631"), looks := false }, kinds := [], alts := [], laidByText := true, laidKinds := [.data, .data, .data, .data, .pinned], laidTests := true, laidLooks := .later }
def FnScopesCardSaid : Prop := Claim7.holds Tryd.pinned (.plain (OpenSpec.ofChange fnScopesSpec)) fnScopesCard

/-- THE TIED CARD OF 'laws.FnExactDeclOk'. -/
def fnExactDeclOkCard : Claim7 := { stood := { row := fnExactDeclOkRow, standIns := [], harness := (true, "8deed0293e383f8c2b00f8cf66d9d7961305000dfbac32ef5505b2f2c9346631"), looks := false }, kinds := [], alts := [], laidByText := true, laidKinds := [.data, .data, .data, .data, .pinned], laidTests := true, laidLooks := .later }
def FnExactDeclOkCardSaid : Prop := Claim7.holds Tryd.pinned (.plain (OpenSpec.ofChange fnExactDeclOkSpec)) fnExactDeclOkCard

/-- THE TIED CARD OF 'laws.FnExactDeclsOk'. -/
def fnExactDeclsOkCard : Claim7 := { stood := { row := fnExactDeclsOkRow, standIns := [], harness := (true, "8deed0293e383f8c2b00f8cf66d9d7961305000dfbac32ef5505b2f2c9346631"), looks := false }, kinds := [], alts := [], laidByText := true, laidKinds := [.data, .data, .data, .data, .pinned], laidTests := true, laidLooks := .later }
def FnExactDeclsOkCardSaid : Prop := Claim7.holds Tryd.pinned (.plain (OpenSpec.ofChange fnExactDeclsOkSpec)) fnExactDeclsOkCard

/-- THE SECOND FORM's CARD OF 'laws.FnScopes'. -/
def fnScopesUptoCard : Claim7 := { stood := { row := fnScopesUptoRow, standIns := [], harness := (true, "8deed0293e383f8c2b00f8cf66d9d7961305000dfbac32ef5505b2f2c9346631"), looks := false }, kinds := [], alts := [], laidByText := true, laidKinds := [.data, .data, .data, .data, .pinned], laidTests := true, laidLooks := .later }
def FnScopesUptoCardSaid : Prop := Claim7.holds Tryd.pinned (.plain (OpenSpec.upto fnScopesSpec)) fnScopesUptoCard

/-- THE SECOND FORM's CARD OF 'laws.FnExactDeclOk'. -/
def fnExactDeclOkUptoCard : Claim7 := { stood := { row := fnExactDeclOkUptoRow, standIns := [], harness := (true, "8deed0293e383f8c2b00f8cf66d9d7961305000dfbac32ef5505b2f2c9346631"), looks := false }, kinds := [], alts := [], laidByText := true, laidKinds := [.data, .data, .data, .data, .pinned], laidTests := true, laidLooks := .later }
def FnExactDeclOkUptoCardSaid : Prop := Claim7.holds Tryd.pinned (.plain (OpenSpec.upto fnExactDeclOkSpec)) fnExactDeclOkUptoCard

/-- THE SECOND FORM's CARD OF 'laws.FnExactDeclsOk'. -/
def fnExactDeclsOkUptoCard : Claim7 := { stood := { row := fnExactDeclsOkUptoRow, standIns := [], harness := (true, "8deed0293e383f8c2b00f8cf66d9d7961305000dfbac32ef5505b2f2c9346631"), looks := false }, kinds := [], alts := [], laidByText := true, laidKinds := [.data, .data, .data, .data, .pinned], laidTests := true, laidLooks := .later }
def FnExactDeclsOkUptoCardSaid : Prop := Claim7.holds Tryd.pinned (.plain (OpenSpec.upto fnExactDeclsOkSpec)) fnExactDeclsOkUptoCard
end Rows
end Go.Proofs.YtifeikodjinpdaaDoor
