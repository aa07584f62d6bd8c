/-
  DERIVED. GIVEN WITH THE SEED: THE CARDS: each row of YtmccbcficbbidaaGreatDoorRows.lean that lists a variable, with what it lists TIED to the program's text (the seventh form; the later family's looks); each row that meets fmt, with fmt's text TOLD by the authors' own Lean function (tested against real Go, not proved from fmt's source: count such statements apart). THE CARD IS WHAT COUNTS. Prove the row's statement (the work); the ties are given (YtmccbcficbbidaaGreatDoorTie.lean); close each card by the builder's one call (the guide's Derived/Test/ToyasCard.lean, 'card_holds'). Laid BY PROGRAM, IN A SANDBOX (cutbox-door.mjs). By AI agents, Wed Nov 11 2026. No macro, syntax, notation, axiom, sorry.
-/
import Derived.Test.YtmccbcficbbidaaGreatDoorRows
import GoSem.ClaimSeven
namespace Go.Proofs.YtmccbcficbbidaaGreatDoor
namespace Rows

/-- THE TIED CARD OF 'muslinlaw19.PipesCheck'. -/
def pipesCheckCard : Claim7 := { stood := { row := pipesCheckRow, standIns := [], harness := (true, "56cc27702f0ab582f662332c4be8d7965c043539f7acc0e51cb421d866a0caae"), looks := true }, kinds := [], alts := [], laidByText := true, laidKinds := [.data, .pinned], laidTests := true, laidLooks := .later }
def PipesCheckCardSaid : Prop := Claim7.holds Tryz.pinned (.plain (OpenSpec.ofChange pipesCheckSpec)) pipesCheckCard

/-- THE TIED CARD OF 'muslinlaw19.PipesBack'. -/
def pipesBackCard : Claim7 := { stood := { row := pipesBackRow, standIns := [], harness := (true, "56cc27702f0ab582f662332c4be8d7965c043539f7acc0e51cb421d866a0caae"), looks := true }, kinds := [], alts := [], laidByText := true, laidKinds := [.data, .pinned], laidTests := true, laidLooks := .later }
def PipesBackCardSaid : Prop := Claim7.holds Tryz.pinned (.plain (OpenSpec.ofChange pipesBackSpec)) pipesBackCard

/-- THE TIED CARD OF 'muslinlaw19.PipesMay'. -/
def pipesMayCard : Claim7 := { stood := { row := pipesMayRow, standIns := [], harness := (true, "56cc27702f0ab582f662332c4be8d7965c043539f7acc0e51cb421d866a0caae"), looks := true }, kinds := [], alts := [], laidByText := true, laidKinds := [.data, .pinned], laidTests := true, laidLooks := .later }
def PipesMayCardSaid : Prop := Claim7.holds Tryz.pinned (.plain (OpenSpec.ofChange pipesMaySpec)) pipesMayCard

/-- THE TIED CARD OF 'muslinlaw19.PipesOwn'. -/
def pipesOwnCard : Claim7 := { stood := { row := pipesOwnRow, standIns := [], harness := (true, "56cc27702f0ab582f662332c4be8d7965c043539f7acc0e51cb421d866a0caae"), looks := true }, kinds := [], alts := [], laidByText := true, laidKinds := [.data, .pinned], laidTests := true, laidLooks := .later }
def PipesOwnCardSaid : Prop := Claim7.holds Tryz.pinned (.plain (OpenSpec.ofChange pipesOwnSpec)) pipesOwnCard

/-- THE SECOND FORM's CARD OF 'muslinlaw19.PipesCheck'. -/
def pipesCheckUptoCard : Claim7 := { stood := { row := pipesCheckUptoRow, standIns := [], harness := (true, "56cc27702f0ab582f662332c4be8d7965c043539f7acc0e51cb421d866a0caae"), looks := true }, kinds := [], alts := [], laidByText := true, laidKinds := [.data, .pinned], laidTests := true, laidLooks := .later }
def PipesCheckUptoCardSaid : Prop := Claim7.holds Tryz.pinned (.plain (OpenSpec.upto pipesCheckSpec)) pipesCheckUptoCard

/-- THE SECOND FORM's CARD OF 'muslinlaw19.PipesBack'. -/
def pipesBackUptoCard : Claim7 := { stood := { row := pipesBackUptoRow, standIns := [], harness := (true, "56cc27702f0ab582f662332c4be8d7965c043539f7acc0e51cb421d866a0caae"), looks := true }, kinds := [], alts := [], laidByText := true, laidKinds := [.data, .pinned], laidTests := true, laidLooks := .later }
def PipesBackUptoCardSaid : Prop := Claim7.holds Tryz.pinned (.plain (OpenSpec.upto pipesBackSpec)) pipesBackUptoCard

/-- THE SECOND FORM's CARD OF 'muslinlaw19.PipesMay'. -/
def pipesMayUptoCard : Claim7 := { stood := { row := pipesMayUptoRow, standIns := [], harness := (true, "56cc27702f0ab582f662332c4be8d7965c043539f7acc0e51cb421d866a0caae"), looks := true }, kinds := [], alts := [], laidByText := true, laidKinds := [.data, .pinned], laidTests := true, laidLooks := .later }
def PipesMayUptoCardSaid : Prop := Claim7.holds Tryz.pinned (.plain (OpenSpec.upto pipesMaySpec)) pipesMayUptoCard

/-- THE SECOND FORM's CARD OF 'muslinlaw19.PipesOwn'. -/
def pipesOwnUptoCard : Claim7 := { stood := { row := pipesOwnUptoRow, standIns := [], harness := (true, "56cc27702f0ab582f662332c4be8d7965c043539f7acc0e51cb421d866a0caae"), looks := true }, kinds := [], alts := [], laidByText := true, laidKinds := [.data, .pinned], laidTests := true, laidLooks := .later }
def PipesOwnUptoCardSaid : Prop := Claim7.holds Tryz.pinned (.plain (OpenSpec.upto pipesOwnSpec)) pipesOwnUptoCard
end Rows
end Go.Proofs.YtmccbcficbbidaaGreatDoor
