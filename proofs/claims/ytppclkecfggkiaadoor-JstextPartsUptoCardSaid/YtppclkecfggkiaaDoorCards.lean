/-
  DERIVED. GIVEN WITH THE SEED: THE CARDS: each row of YtppclkecfggkiaaDoorRows.lean that lists a variable, with what it lists TIED to the program's text (the seventh form; the later family's looks); each row that meets fmt, with fmt's text TOLD by the authors' own Lean function (tested against real Go, not proved from fmt's source: count such statements apart). THE CARD IS WHAT COUNTS. Prove the row's statement (the work); the ties are given (YtppclkecfggkiaaDoorTie.lean); close each card by the builder's one call (the guide's Derived/Test/ToyasCard.lean, 'card_holds'). Laid BY PROGRAM, IN A SANDBOX (cutbox-door.mjs). By AI agents, Wed Nov 11 2026. No macro, syntax, notation, axiom, sorry.
-/
import Derived.Test.YtppclkecfggkiaaDoorRows
import GoSem.ClaimSeven
namespace Go.Proofs.YtppclkecfggkiaaDoor
namespace Rows

/-- THE TIED CARD OF 'muslinlaw09.JstextBack'. -/
def jstextBackCard : Claim7 := { stood := { row := jstextBackRow, standIns := [], harness := (true, "8e9de6cc84200155a671b07bd4abe9b3833538a2d8778e67edc3a34bfa367dd4"), looks := false }, kinds := [], alts := [], laidByText := true, laidKinds := [.data, .pinned], laidTests := true, laidLooks := .later }
def JstextBackCardSaid : Prop := Claim7.holds Tryd.pinned (.plain (OpenSpec.ofChange jstextBackSpec)) jstextBackCard

/-- THE TIED CARD OF 'muslinlaw09.JstextParts'. -/
def jstextPartsCard : Claim7 := { stood := { row := jstextPartsRow, standIns := [], harness := (true, "8e9de6cc84200155a671b07bd4abe9b3833538a2d8778e67edc3a34bfa367dd4"), looks := false }, kinds := [], alts := [], laidByText := true, laidKinds := [.data, .pinned], laidTests := true, laidLooks := .later }
def JstextPartsCardSaid : Prop := Claim7.holds Tryd.pinned (.plain (OpenSpec.ofChange jstextPartsSpec)) jstextPartsCard

/-- THE TIED CARD OF 'muslinlaw09.JstextEnds'. -/
def jstextEndsCard : Claim7 := { stood := { row := jstextEndsRow, standIns := [], harness := (true, "8e9de6cc84200155a671b07bd4abe9b3833538a2d8778e67edc3a34bfa367dd4"), looks := false }, kinds := [], alts := [], laidByText := true, laidKinds := [.data, .pinned], laidTests := true, laidLooks := .later }
def JstextEndsCardSaid : Prop := Claim7.holds Tryd.pinned (.plain (OpenSpec.ofChange jstextEndsSpec)) jstextEndsCard

/-- THE SECOND FORM's CARD OF 'muslinlaw09.JstextBack'. -/
def jstextBackUptoCard : Claim7 := { stood := { row := jstextBackUptoRow, standIns := [], harness := (true, "8e9de6cc84200155a671b07bd4abe9b3833538a2d8778e67edc3a34bfa367dd4"), looks := false }, kinds := [], alts := [], laidByText := true, laidKinds := [.data, .pinned], laidTests := true, laidLooks := .later }
def JstextBackUptoCardSaid : Prop := Claim7.holds Tryd.pinned (.plain (OpenSpec.upto jstextBackSpec)) jstextBackUptoCard

/-- THE SECOND FORM's CARD OF 'muslinlaw09.JstextParts'. -/
def jstextPartsUptoCard : Claim7 := { stood := { row := jstextPartsUptoRow, standIns := [], harness := (true, "8e9de6cc84200155a671b07bd4abe9b3833538a2d8778e67edc3a34bfa367dd4"), looks := false }, kinds := [], alts := [], laidByText := true, laidKinds := [.data, .pinned], laidTests := true, laidLooks := .later }
def JstextPartsUptoCardSaid : Prop := Claim7.holds Tryd.pinned (.plain (OpenSpec.upto jstextPartsSpec)) jstextPartsUptoCard

/-- THE SECOND FORM's CARD OF 'muslinlaw09.JstextEnds'. -/
def jstextEndsUptoCard : Claim7 := { stood := { row := jstextEndsUptoRow, standIns := [], harness := (true, "8e9de6cc84200155a671b07bd4abe9b3833538a2d8778e67edc3a34bfa367dd4"), looks := false }, kinds := [], alts := [], laidByText := true, laidKinds := [.data, .pinned], laidTests := true, laidLooks := .later }
def JstextEndsUptoCardSaid : Prop := Claim7.holds Tryd.pinned (.plain (OpenSpec.upto jstextEndsSpec)) jstextEndsUptoCard
end Rows
end Go.Proofs.YtppclkecfggkiaaDoor
