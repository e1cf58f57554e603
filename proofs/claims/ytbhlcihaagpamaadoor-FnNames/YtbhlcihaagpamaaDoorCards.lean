/-
  DERIVED. GIVEN WITH THE SEED: THE CARDS: each row of YtbhlcihaagpamaaDoorRows.lean that lists a variable, with what it lists TIED to the program's text (the seventh form; the later family's looks); each row that meets fmt, with fmt's text TOLD by the authors' own Lean function (tested against real Go, not proved from fmt's source: count such statements apart). THE CARD IS WHAT COUNTS. Prove the row's statement (the work); the ties are given (YtbhlcihaagpamaaDoorTie.lean); close each card by the builder's one call (the guide's Derived/Test/ToyasCard.lean, 'card_holds'). Laid BY PROGRAM, IN A SANDBOX (cutbox-door.mjs). By AI agents, Wed Nov 11 2026. No macro, syntax, notation, axiom, sorry.
-/
import Derived.Test.YtbhlcihaagpamaaDoorRows
import GoSem.ClaimSeven
namespace Go.Proofs.YtbhlcihaagpamaaDoor
namespace Rows

/-- THE TIED CARD OF 'laws.FnNames'. -/
def fnNamesCard : Claim7 := { stood := { row := fnNamesRow, standIns := [], harness := (true, "01186a54a6af626f8cdb328d0d0da93a40a133e84a506ac8423c15d7945cd8c2"), looks := false }, kinds := [], alts := [], laidByText := true, laidKinds := [.data, .data], laidTests := true, laidLooks := .later }
def FnNamesCardSaid : Prop := Claim7.holds Tryd.pinned (.plain (OpenSpec.ofChange fnNamesSpec)) fnNamesCard

/-- THE TIED CARD OF 'laws.FnExactPlainOk'. -/
def fnExactPlainOkCard : Claim7 := { stood := { row := fnExactPlainOkRow, standIns := [], harness := (true, "01186a54a6af626f8cdb328d0d0da93a40a133e84a506ac8423c15d7945cd8c2"), looks := false }, kinds := [], alts := [], laidByText := true, laidKinds := [.data, .data], laidTests := true, laidLooks := .later }
def FnExactPlainOkCardSaid : Prop := Claim7.holds Tryd.pinned (.plain (OpenSpec.ofChange fnExactPlainOkSpec)) fnExactPlainOkCard

/-- THE TIED CARD OF 'laws.FnExactSplitName'. -/
def fnExactSplitNameCard : Claim7 := { stood := { row := fnExactSplitNameRow, standIns := [], harness := (true, "01186a54a6af626f8cdb328d0d0da93a40a133e84a506ac8423c15d7945cd8c2"), looks := false }, kinds := [], alts := [], laidByText := true, laidKinds := [.data, .data], laidTests := true, laidLooks := .later }
def FnExactSplitNameCardSaid : Prop := Claim7.holds Tryd.pinned (.plain (OpenSpec.ofChange fnExactSplitNameSpec)) fnExactSplitNameCard

/-- THE TIED CARD OF 'laws.FnExactJoinName'. -/
def fnExactJoinNameCard : Claim7 := { stood := { row := fnExactJoinNameRow, standIns := [], harness := (true, "01186a54a6af626f8cdb328d0d0da93a40a133e84a506ac8423c15d7945cd8c2"), looks := false }, kinds := [], alts := [], laidByText := true, laidKinds := [.data, .data], laidTests := true, laidLooks := .later }
def FnExactJoinNameCardSaid : Prop := Claim7.holds Tryd.pinned (.plain (OpenSpec.ofChange fnExactJoinNameSpec)) fnExactJoinNameCard

/-- THE TIED CARD OF 'laws.FnExactNameAt'. -/
def fnExactNameAtCard : Claim7 := { stood := { row := fnExactNameAtRow, standIns := [], harness := (true, "01186a54a6af626f8cdb328d0d0da93a40a133e84a506ac8423c15d7945cd8c2"), looks := false }, kinds := [], alts := [], laidByText := true, laidKinds := [.data, .data], laidTests := true, laidLooks := .later }
def FnExactNameAtCardSaid : Prop := Claim7.holds Tryd.pinned (.plain (OpenSpec.ofChange fnExactNameAtSpec)) fnExactNameAtCard

/-- THE SECOND FORM's CARD OF 'laws.FnNames'. -/
def fnNamesUptoCard : Claim7 := { stood := { row := fnNamesUptoRow, standIns := [], harness := (true, "01186a54a6af626f8cdb328d0d0da93a40a133e84a506ac8423c15d7945cd8c2"), looks := false }, kinds := [], alts := [], laidByText := true, laidKinds := [.data, .data], laidTests := true, laidLooks := .later }
def FnNamesUptoCardSaid : Prop := Claim7.holds Tryd.pinned (.plain (OpenSpec.upto fnNamesSpec)) fnNamesUptoCard

/-- THE SECOND FORM's CARD OF 'laws.FnExactPlainOk'. -/
def fnExactPlainOkUptoCard : Claim7 := { stood := { row := fnExactPlainOkUptoRow, standIns := [], harness := (true, "01186a54a6af626f8cdb328d0d0da93a40a133e84a506ac8423c15d7945cd8c2"), looks := false }, kinds := [], alts := [], laidByText := true, laidKinds := [.data, .data], laidTests := true, laidLooks := .later }
def FnExactPlainOkUptoCardSaid : Prop := Claim7.holds Tryd.pinned (.plain (OpenSpec.upto fnExactPlainOkSpec)) fnExactPlainOkUptoCard

/-- THE SECOND FORM's CARD OF 'laws.FnExactSplitName'. -/
def fnExactSplitNameUptoCard : Claim7 := { stood := { row := fnExactSplitNameUptoRow, standIns := [], harness := (true, "01186a54a6af626f8cdb328d0d0da93a40a133e84a506ac8423c15d7945cd8c2"), looks := false }, kinds := [], alts := [], laidByText := true, laidKinds := [.data, .data], laidTests := true, laidLooks := .later }
def FnExactSplitNameUptoCardSaid : Prop := Claim7.holds Tryd.pinned (.plain (OpenSpec.upto fnExactSplitNameSpec)) fnExactSplitNameUptoCard

/-- THE SECOND FORM's CARD OF 'laws.FnExactJoinName'. -/
def fnExactJoinNameUptoCard : Claim7 := { stood := { row := fnExactJoinNameUptoRow, standIns := [], harness := (true, "01186a54a6af626f8cdb328d0d0da93a40a133e84a506ac8423c15d7945cd8c2"), looks := false }, kinds := [], alts := [], laidByText := true, laidKinds := [.data, .data], laidTests := true, laidLooks := .later }
def FnExactJoinNameUptoCardSaid : Prop := Claim7.holds Tryd.pinned (.plain (OpenSpec.upto fnExactJoinNameSpec)) fnExactJoinNameUptoCard

/-- THE SECOND FORM's CARD OF 'laws.FnExactNameAt'. -/
def fnExactNameAtUptoCard : Claim7 := { stood := { row := fnExactNameAtUptoRow, standIns := [], harness := (true, "01186a54a6af626f8cdb328d0d0da93a40a133e84a506ac8423c15d7945cd8c2"), looks := false }, kinds := [], alts := [], laidByText := true, laidKinds := [.data, .data], laidTests := true, laidLooks := .later }
def FnExactNameAtUptoCardSaid : Prop := Claim7.holds Tryd.pinned (.plain (OpenSpec.upto fnExactNameAtSpec)) fnExactNameAtUptoCard
end Rows
end Go.Proofs.YtbhlcihaagpamaaDoor
