/-
  DERIVED. GIVEN WITH THE SEED: THE CARDS: each row of YtoghgbljglofnaaGreatDoorRows.lean that lists a variable, with what it lists TIED to the program's text (the seventh form; the later family's looks); each row that meets fmt, with fmt's text TOLD by the authors' own Lean function (tested against real Go, not proved from fmt's source: count such statements apart). THE CARD IS WHAT COUNTS. Prove the row's statement (the work); the ties are given (YtoghgbljglofnaaGreatDoorTie.lean); close each card by the builder's one call (the guide's Derived/Test/ToyasCard.lean, 'card_holds'). Laid BY PROGRAM, IN A SANDBOX (cutbox-door.mjs). By AI agents, Wed Nov 11 2026. No macro, syntax, notation, axiom, sorry.
-/
import Derived.Test.YtoghgbljglofnaaGreatDoorRows
import GoSem.ClaimSeven
namespace Go.Proofs.YtoghgbljglofnaaGreatDoor
namespace Rows

/-- THE TIED CARD OF 'winnowerlaw11.FieldsNumbers'. -/
def fieldsNumbersCard : Claim7 := { stood := { row := fieldsNumbersRow, standIns := [], harness := (true, "266e4d9ec18bf42a98fdf15823b56ccf635f2d07ca1bc07a4094483fbb2fbfe9"), looks := true }, kinds := [], alts := [], laidByText := true, laidKinds := [.data, .data, .widerDeep, .widerDeep, .data, .data, .data, .data, .data, .data, .sentinel, .sentinel, .pinned, .pinned, .pinned], laidTests := true, laidLooks := .later }
def FieldsNumbersCardSaid : Prop := Claim7.holds Tryz.pinned (.plain (OpenSpec.ofChange fieldsNumbersSpec)) fieldsNumbersCard

/-- THE TIED CARD OF 'winnowerlaw11.FieldsNone'. -/
def fieldsNoneCard : Claim7 := { stood := { row := fieldsNoneRow, standIns := [], harness := (true, "266e4d9ec18bf42a98fdf15823b56ccf635f2d07ca1bc07a4094483fbb2fbfe9"), looks := true }, kinds := [], alts := [], laidByText := true, laidKinds := [.data, .data, .widerDeep, .widerDeep, .data, .data, .data, .data, .data, .data, .sentinel, .sentinel, .pinned, .pinned, .pinned], laidTests := true, laidLooks := .later }
def FieldsNoneCardSaid : Prop := Claim7.holds Tryz.pinned (.plain (OpenSpec.ofChange fieldsNoneSpec)) fieldsNoneCard

/-- THE TIED CARD OF 'winnowerlaw11.FieldsOnce'. -/
def fieldsOnceCard : Claim7 := { stood := { row := fieldsOnceRow, standIns := [], harness := (true, "266e4d9ec18bf42a98fdf15823b56ccf635f2d07ca1bc07a4094483fbb2fbfe9"), looks := true }, kinds := [], alts := [], laidByText := true, laidKinds := [.data, .data, .widerDeep, .widerDeep, .data, .data, .data, .data, .data, .data, .sentinel, .sentinel, .pinned, .pinned, .pinned], laidTests := true, laidLooks := .later }
def FieldsOnceCardSaid : Prop := Claim7.holds Tryz.pinned (.plain (OpenSpec.ofChange fieldsOnceSpec)) fieldsOnceCard

/-- THE TIED CARD OF 'winnowerlaw11.FieldsBack'. -/
def fieldsBackCard : Claim7 := { stood := { row := fieldsBackRow, standIns := [], harness := (true, "266e4d9ec18bf42a98fdf15823b56ccf635f2d07ca1bc07a4094483fbb2fbfe9"), looks := true }, kinds := [], alts := [], laidByText := true, laidKinds := [.data, .data, .widerDeep, .widerDeep, .data, .data, .data, .data, .data, .data, .sentinel, .sentinel, .pinned, .pinned, .pinned], laidTests := true, laidLooks := .later }
def FieldsBackCardSaid : Prop := Claim7.holds Tryz.pinned (.plain (OpenSpec.ofChange fieldsBackSpec)) fieldsBackCard

/-- THE TIED CARD OF 'winnowerlaw11.FieldsPattern'. -/
def fieldsPatternCard : Claim7 := { stood := { row := fieldsPatternRow, standIns := [], harness := (true, "266e4d9ec18bf42a98fdf15823b56ccf635f2d07ca1bc07a4094483fbb2fbfe9"), looks := true }, kinds := [], alts := [], laidByText := true, laidKinds := [.data, .data, .widerDeep, .widerDeep, .data, .data, .data, .data, .data, .data, .sentinel, .sentinel, .pinned, .pinned, .pinned], laidTests := true, laidLooks := .later }
def FieldsPatternCardSaid : Prop := Claim7.holds Tryz.pinned (.plain (OpenSpec.ofChange fieldsPatternSpec)) fieldsPatternCard

/-- THE SECOND FORM's CARD OF 'winnowerlaw11.FieldsNumbers'. -/
def fieldsNumbersUptoCard : Claim7 := { stood := { row := fieldsNumbersUptoRow, standIns := [], harness := (true, "266e4d9ec18bf42a98fdf15823b56ccf635f2d07ca1bc07a4094483fbb2fbfe9"), looks := true }, kinds := [], alts := [], laidByText := true, laidKinds := [.data, .data, .widerDeep, .widerDeep, .data, .data, .data, .data, .data, .data, .sentinel, .sentinel, .pinned, .pinned, .pinned], laidTests := true, laidLooks := .later }
def FieldsNumbersUptoCardSaid : Prop := Claim7.holds Tryz.pinned (.plain (OpenSpec.upto fieldsNumbersSpec)) fieldsNumbersUptoCard

/-- THE SECOND FORM's CARD OF 'winnowerlaw11.FieldsNone'. -/
def fieldsNoneUptoCard : Claim7 := { stood := { row := fieldsNoneUptoRow, standIns := [], harness := (true, "266e4d9ec18bf42a98fdf15823b56ccf635f2d07ca1bc07a4094483fbb2fbfe9"), looks := true }, kinds := [], alts := [], laidByText := true, laidKinds := [.data, .data, .widerDeep, .widerDeep, .data, .data, .data, .data, .data, .data, .sentinel, .sentinel, .pinned, .pinned, .pinned], laidTests := true, laidLooks := .later }
def FieldsNoneUptoCardSaid : Prop := Claim7.holds Tryz.pinned (.plain (OpenSpec.upto fieldsNoneSpec)) fieldsNoneUptoCard

/-- THE SECOND FORM's CARD OF 'winnowerlaw11.FieldsOnce'. -/
def fieldsOnceUptoCard : Claim7 := { stood := { row := fieldsOnceUptoRow, standIns := [], harness := (true, "266e4d9ec18bf42a98fdf15823b56ccf635f2d07ca1bc07a4094483fbb2fbfe9"), looks := true }, kinds := [], alts := [], laidByText := true, laidKinds := [.data, .data, .widerDeep, .widerDeep, .data, .data, .data, .data, .data, .data, .sentinel, .sentinel, .pinned, .pinned, .pinned], laidTests := true, laidLooks := .later }
def FieldsOnceUptoCardSaid : Prop := Claim7.holds Tryz.pinned (.plain (OpenSpec.upto fieldsOnceSpec)) fieldsOnceUptoCard

/-- THE SECOND FORM's CARD OF 'winnowerlaw11.FieldsBack'. -/
def fieldsBackUptoCard : Claim7 := { stood := { row := fieldsBackUptoRow, standIns := [], harness := (true, "266e4d9ec18bf42a98fdf15823b56ccf635f2d07ca1bc07a4094483fbb2fbfe9"), looks := true }, kinds := [], alts := [], laidByText := true, laidKinds := [.data, .data, .widerDeep, .widerDeep, .data, .data, .data, .data, .data, .data, .sentinel, .sentinel, .pinned, .pinned, .pinned], laidTests := true, laidLooks := .later }
def FieldsBackUptoCardSaid : Prop := Claim7.holds Tryz.pinned (.plain (OpenSpec.upto fieldsBackSpec)) fieldsBackUptoCard

/-- THE SECOND FORM's CARD OF 'winnowerlaw11.FieldsPattern'. -/
def fieldsPatternUptoCard : Claim7 := { stood := { row := fieldsPatternUptoRow, standIns := [], harness := (true, "266e4d9ec18bf42a98fdf15823b56ccf635f2d07ca1bc07a4094483fbb2fbfe9"), looks := true }, kinds := [], alts := [], laidByText := true, laidKinds := [.data, .data, .widerDeep, .widerDeep, .data, .data, .data, .data, .data, .data, .sentinel, .sentinel, .pinned, .pinned, .pinned], laidTests := true, laidLooks := .later }
def FieldsPatternUptoCardSaid : Prop := Claim7.holds Tryz.pinned (.plain (OpenSpec.upto fieldsPatternSpec)) fieldsPatternUptoCard
end Rows
end Go.Proofs.YtoghgbljglofnaaGreatDoor
