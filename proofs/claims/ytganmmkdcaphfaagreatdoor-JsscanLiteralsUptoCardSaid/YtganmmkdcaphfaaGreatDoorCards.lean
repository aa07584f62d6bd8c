/-
  DERIVED. GIVEN WITH THE SEED: THE CARDS: each row of YtganmmkdcaphfaaGreatDoorRows.lean that lists a variable, with what it lists TIED to the program's text (the seventh form; the later family's looks); each row that meets fmt, with fmt's text TOLD by the authors' own Lean function (tested against real Go, not proved from fmt's source: count such statements apart). THE CARD IS WHAT COUNTS. Prove the row's statement (the work); the ties are given (YtganmmkdcaphfaaGreatDoorTie.lean); close each card by the builder's one call (the guide's Derived/Test/ToyasCard.lean, 'card_holds'). Laid BY PROGRAM, IN A SANDBOX (cutbox-door.mjs). By AI agents, Wed Nov 11 2026. No macro, syntax, notation, axiom, sorry.
-/
import Derived.Test.YtganmmkdcaphfaaGreatDoorRows
import GoSem.ClaimSeven
namespace Go.Proofs.YtganmmkdcaphfaaGreatDoor
namespace Rows

/-- THE TIED CARD OF 'muslinlaw15.JsscanLiterals'. -/
def jsscanLiteralsCard : Claim7 := { stood := { row := jsscanLiteralsRow, standIns := [], harness := (true, "2319153dcb652b6b921d6544ed20f583f7c67580f9115bac3b9e4c49439837ba"), looks := true }, kinds := [], alts := [], laidByText := true, laidKinds := [.data, .pinned], laidTests := true, laidLooks := .later }
def JsscanLiteralsCardSaid : Prop := Claim7.holds Tryz.pinned (.plain (OpenSpec.ofChange jsscanLiteralsSpec)) jsscanLiteralsCard

/-- THE TIED CARD OF 'muslinlaw15.JsscanStrings'. -/
def jsscanStringsCard : Claim7 := { stood := { row := jsscanStringsRow, standIns := [], harness := (true, "2319153dcb652b6b921d6544ed20f583f7c67580f9115bac3b9e4c49439837ba"), looks := true }, kinds := [], alts := [], laidByText := true, laidKinds := [.data, .pinned], laidTests := true, laidLooks := .later }
def JsscanStringsCardSaid : Prop := Claim7.holds Tryz.pinned (.plain (OpenSpec.ofChange jsscanStringsSpec)) jsscanStringsCard

/-- THE TIED CARD OF 'muslinlaw15.JsscanParts'. -/
def jsscanPartsCard : Claim7 := { stood := { row := jsscanPartsRow, standIns := [], harness := (true, "2319153dcb652b6b921d6544ed20f583f7c67580f9115bac3b9e4c49439837ba"), looks := true }, kinds := [], alts := [], laidByText := true, laidKinds := [.data, .pinned], laidTests := true, laidLooks := .later }
def JsscanPartsCardSaid : Prop := Claim7.holds Tryz.pinned (.plain (OpenSpec.ofChange jsscanPartsSpec)) jsscanPartsCard

/-- THE TIED CARD OF 'muslinlaw15.JsscanRemarks'. -/
def jsscanRemarksCard : Claim7 := { stood := { row := jsscanRemarksRow, standIns := [], harness := (true, "2319153dcb652b6b921d6544ed20f583f7c67580f9115bac3b9e4c49439837ba"), looks := true }, kinds := [], alts := [], laidByText := true, laidKinds := [.data, .pinned], laidTests := true, laidLooks := .later }
def JsscanRemarksCardSaid : Prop := Claim7.holds Tryz.pinned (.plain (OpenSpec.ofChange jsscanRemarksSpec)) jsscanRemarksCard

/-- THE SECOND FORM's CARD OF 'muslinlaw15.JsscanLiterals'. -/
def jsscanLiteralsUptoCard : Claim7 := { stood := { row := jsscanLiteralsUptoRow, standIns := [], harness := (true, "2319153dcb652b6b921d6544ed20f583f7c67580f9115bac3b9e4c49439837ba"), looks := true }, kinds := [], alts := [], laidByText := true, laidKinds := [.data, .pinned], laidTests := true, laidLooks := .later }
def JsscanLiteralsUptoCardSaid : Prop := Claim7.holds Tryz.pinned (.plain (OpenSpec.upto jsscanLiteralsSpec)) jsscanLiteralsUptoCard

/-- THE SECOND FORM's CARD OF 'muslinlaw15.JsscanStrings'. -/
def jsscanStringsUptoCard : Claim7 := { stood := { row := jsscanStringsUptoRow, standIns := [], harness := (true, "2319153dcb652b6b921d6544ed20f583f7c67580f9115bac3b9e4c49439837ba"), looks := true }, kinds := [], alts := [], laidByText := true, laidKinds := [.data, .pinned], laidTests := true, laidLooks := .later }
def JsscanStringsUptoCardSaid : Prop := Claim7.holds Tryz.pinned (.plain (OpenSpec.upto jsscanStringsSpec)) jsscanStringsUptoCard

/-- THE SECOND FORM's CARD OF 'muslinlaw15.JsscanParts'. -/
def jsscanPartsUptoCard : Claim7 := { stood := { row := jsscanPartsUptoRow, standIns := [], harness := (true, "2319153dcb652b6b921d6544ed20f583f7c67580f9115bac3b9e4c49439837ba"), looks := true }, kinds := [], alts := [], laidByText := true, laidKinds := [.data, .pinned], laidTests := true, laidLooks := .later }
def JsscanPartsUptoCardSaid : Prop := Claim7.holds Tryz.pinned (.plain (OpenSpec.upto jsscanPartsSpec)) jsscanPartsUptoCard

/-- THE SECOND FORM's CARD OF 'muslinlaw15.JsscanRemarks'. -/
def jsscanRemarksUptoCard : Claim7 := { stood := { row := jsscanRemarksUptoRow, standIns := [], harness := (true, "2319153dcb652b6b921d6544ed20f583f7c67580f9115bac3b9e4c49439837ba"), looks := true }, kinds := [], alts := [], laidByText := true, laidKinds := [.data, .pinned], laidTests := true, laidLooks := .later }
def JsscanRemarksUptoCardSaid : Prop := Claim7.holds Tryz.pinned (.plain (OpenSpec.upto jsscanRemarksSpec)) jsscanRemarksUptoCard
end Rows
end Go.Proofs.YtganmmkdcaphfaaGreatDoor
