/-
  DERIVED. GIVEN WITH THE SEED: THE CARDS: each row of YtfifgmhlcikjeaaGreatDoorRows.lean that lists a variable, with what it lists TIED to the program's text (the seventh form; the later family's looks); each row that meets fmt, with fmt's text TOLD by the authors' own Lean function (tested against real Go, not proved from fmt's source: count such statements apart). THE CARD IS WHAT COUNTS. Prove the row's statement (the work); the ties are given (YtfifgmhlcikjeaaGreatDoorTie.lean); close each card by the builder's one call (the guide's Derived/Test/ToyasCard.lean, 'card_holds'). Laid BY PROGRAM, IN A SANDBOX (cutbox-door.mjs). By AI agents, Wed Nov 11 2026. No macro, syntax, notation, axiom, sorry.
-/
import Derived.Test.YtfifgmhlcikjeaaGreatDoorRows
import GoSem.ClaimSeven
namespace Go.Proofs.YtfifgmhlcikjeaaGreatDoor
namespace Rows

/-- THE TIED CARD OF 'winnowerlaw08.CellsNumbers'. -/
def cellsNumbersCard : Claim7 := { stood := { row := cellsNumbersRow, standIns := [], harness := (true, "8c17ead8c3d14988e5f939f470b84588c1ac74ed18b241991c295099e8196604"), looks := true }, kinds := [], alts := [], laidByText := true, laidKinds := [.data, .data, .widerDeep, .widerDeep, .data, .data, .data, .data, .data, .data, .sentinel, .sentinel, .pinned, .pinned, .pinned], laidTests := true, laidLooks := .later }
def CellsNumbersCardSaid : Prop := Claim7.holds Tryz.pinned (.plain (OpenSpec.ofChange cellsNumbersSpec)) cellsNumbersCard

/-- THE TIED CARD OF 'winnowerlaw08.CellsOrder'. -/
def cellsOrderCard : Claim7 := { stood := { row := cellsOrderRow, standIns := [], harness := (true, "8c17ead8c3d14988e5f939f470b84588c1ac74ed18b241991c295099e8196604"), looks := true }, kinds := [], alts := [], laidByText := true, laidKinds := [.data, .data, .widerDeep, .widerDeep, .data, .data, .data, .data, .data, .data, .sentinel, .sentinel, .pinned, .pinned, .pinned], laidTests := true, laidLooks := .later }
def CellsOrderCardSaid : Prop := Claim7.holds Tryz.pinned (.plain (OpenSpec.ofChange cellsOrderSpec)) cellsOrderCard

/-- THE TIED CARD OF 'winnowerlaw08.CellsLook'. -/
def cellsLookCard : Claim7 := { stood := { row := cellsLookRow, standIns := [], harness := (true, "8c17ead8c3d14988e5f939f470b84588c1ac74ed18b241991c295099e8196604"), looks := true }, kinds := [], alts := [], laidByText := true, laidKinds := [.data, .data, .widerDeep, .widerDeep, .data, .data, .data, .data, .data, .data, .sentinel, .sentinel, .pinned, .pinned, .pinned], laidTests := true, laidLooks := .later }
def CellsLookCardSaid : Prop := Claim7.holds Tryz.pinned (.plain (OpenSpec.ofChange cellsLookSpec)) cellsLookCard

/-- THE SECOND FORM's CARD OF 'winnowerlaw08.CellsNumbers'. -/
def cellsNumbersUptoCard : Claim7 := { stood := { row := cellsNumbersUptoRow, standIns := [], harness := (true, "8c17ead8c3d14988e5f939f470b84588c1ac74ed18b241991c295099e8196604"), looks := true }, kinds := [], alts := [], laidByText := true, laidKinds := [.data, .data, .widerDeep, .widerDeep, .data, .data, .data, .data, .data, .data, .sentinel, .sentinel, .pinned, .pinned, .pinned], laidTests := true, laidLooks := .later }
def CellsNumbersUptoCardSaid : Prop := Claim7.holds Tryz.pinned (.plain (OpenSpec.upto cellsNumbersSpec)) cellsNumbersUptoCard

/-- THE SECOND FORM's CARD OF 'winnowerlaw08.CellsOrder'. -/
def cellsOrderUptoCard : Claim7 := { stood := { row := cellsOrderUptoRow, standIns := [], harness := (true, "8c17ead8c3d14988e5f939f470b84588c1ac74ed18b241991c295099e8196604"), looks := true }, kinds := [], alts := [], laidByText := true, laidKinds := [.data, .data, .widerDeep, .widerDeep, .data, .data, .data, .data, .data, .data, .sentinel, .sentinel, .pinned, .pinned, .pinned], laidTests := true, laidLooks := .later }
def CellsOrderUptoCardSaid : Prop := Claim7.holds Tryz.pinned (.plain (OpenSpec.upto cellsOrderSpec)) cellsOrderUptoCard

/-- THE SECOND FORM's CARD OF 'winnowerlaw08.CellsLook'. -/
def cellsLookUptoCard : Claim7 := { stood := { row := cellsLookUptoRow, standIns := [], harness := (true, "8c17ead8c3d14988e5f939f470b84588c1ac74ed18b241991c295099e8196604"), looks := true }, kinds := [], alts := [], laidByText := true, laidKinds := [.data, .data, .widerDeep, .widerDeep, .data, .data, .data, .data, .data, .data, .sentinel, .sentinel, .pinned, .pinned, .pinned], laidTests := true, laidLooks := .later }
def CellsLookUptoCardSaid : Prop := Claim7.holds Tryz.pinned (.plain (OpenSpec.upto cellsLookSpec)) cellsLookUptoCard
end Rows
end Go.Proofs.YtfifgmhlcikjeaaGreatDoor
