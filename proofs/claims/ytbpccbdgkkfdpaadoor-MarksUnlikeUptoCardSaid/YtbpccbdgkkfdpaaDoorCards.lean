/-
  DERIVED. GIVEN WITH THE SEED: THE CARDS: each row of YtbpccbdgkkfdpaaDoorRows.lean that lists a variable, with what it lists TIED to the program's text (the seventh form; the later family's looks); each row that meets fmt, with fmt's text TOLD by the authors' own Lean function (tested against real Go, not proved from fmt's source: count such statements apart). THE CARD IS WHAT COUNTS. Prove the row's statement (the work); the ties are given (YtbpccbdgkkfdpaaDoorTie.lean); close each card by the builder's one call (the guide's Derived/Test/ToyasCard.lean, 'card_holds'). Laid BY PROGRAM, IN A SANDBOX (cutbox-door.mjs). By AI agents, Wed Nov 11 2026. No macro, syntax, notation, axiom, sorry.
-/
import Derived.Test.YtbpccbdgkkfdpaaDoorRows
import GoSem.ClaimSeven
namespace Go.Proofs.YtbpccbdgkkfdpaaDoor
namespace Rows

/-- THE TIED CARD OF 'muslinlaw13.MarksReads'. -/
def marksReadsCard : Claim7 := { stood := { row := marksReadsRow, standIns := [], harness := (true, "1bcf1fdf1014d9e55f90452be0eac6923df3c160be980ef9290433c4940f86d4"), looks := false }, kinds := [], alts := [], laidByText := true, laidKinds := [.data, .pinned], laidTests := true, laidLooks := .later }
def MarksReadsCardSaid : Prop := Claim7.holds Tryd.pinned (.plain (OpenSpec.ofChange marksReadsSpec)) marksReadsCard

/-- THE TIED CARD OF 'muslinlaw13.MarksUnlike'. -/
def marksUnlikeCard : Claim7 := { stood := { row := marksUnlikeRow, standIns := [], harness := (true, "1bcf1fdf1014d9e55f90452be0eac6923df3c160be980ef9290433c4940f86d4"), looks := false }, kinds := [], alts := [], laidByText := true, laidKinds := [.data, .pinned], laidTests := true, laidLooks := .later }
def MarksUnlikeCardSaid : Prop := Claim7.holds Tryd.pinned (.plain (OpenSpec.ofChange marksUnlikeSpec)) marksUnlikeCard

/-- THE SECOND FORM's CARD OF 'muslinlaw13.MarksReads'. -/
def marksReadsUptoCard : Claim7 := { stood := { row := marksReadsUptoRow, standIns := [], harness := (true, "1bcf1fdf1014d9e55f90452be0eac6923df3c160be980ef9290433c4940f86d4"), looks := false }, kinds := [], alts := [], laidByText := true, laidKinds := [.data, .pinned], laidTests := true, laidLooks := .later }
def MarksReadsUptoCardSaid : Prop := Claim7.holds Tryd.pinned (.plain (OpenSpec.upto marksReadsSpec)) marksReadsUptoCard

/-- THE SECOND FORM's CARD OF 'muslinlaw13.MarksUnlike'. -/
def marksUnlikeUptoCard : Claim7 := { stood := { row := marksUnlikeUptoRow, standIns := [], harness := (true, "1bcf1fdf1014d9e55f90452be0eac6923df3c160be980ef9290433c4940f86d4"), looks := false }, kinds := [], alts := [], laidByText := true, laidKinds := [.data, .pinned], laidTests := true, laidLooks := .later }
def MarksUnlikeUptoCardSaid : Prop := Claim7.holds Tryd.pinned (.plain (OpenSpec.upto marksUnlikeSpec)) marksUnlikeUptoCard
end Rows
end Go.Proofs.YtbpccbdgkkfdpaaDoor
