/-
  DERIVED. GIVEN WITH THE SEED: THE CARDS: each row of YthmdflmogeielaaDoorRows.lean that lists a variable, with what it lists TIED to the program's text (the seventh form; the later family's looks); each row that meets fmt, with fmt's text TOLD by the authors' own Lean function (tested against real Go, not proved from fmt's source: count such statements apart). THE CARD IS WHAT COUNTS. Prove the row's statement (the work); the ties are given (YthmdflmogeielaaDoorTie.lean); close each card by the builder's one call (the guide's Derived/Test/ToyasCard.lean, 'card_holds'). Laid BY PROGRAM, IN A SANDBOX (cutbox-door.mjs). By AI agents, Wed Nov 11 2026. No macro, syntax, notation, axiom, sorry.
-/
import Derived.Test.YthmdflmogeielaaDoorRows
import GoSem.ClaimSeven
namespace Go.Proofs.YthmdflmogeielaaDoor
namespace Rows

/-- THE TIED CARD OF 'muslinlaw07.PercentBack'. -/
def percentBackCard : Claim7 := { stood := { row := percentBackRow, standIns := [], harness := (true, "95dc3f1b4db95645a24648345f3571b6de6b778ed9dc26ff795be7d671125400"), looks := false }, kinds := [], alts := [], laidByText := true, laidKinds := [.data, .pinned], laidTests := true, laidLooks := .later }
def PercentBackCardSaid : Prop := Claim7.holds Tryd.pinned (.plain (OpenSpec.ofChange percentBackSpec)) percentBackCard

/-- THE TIED CARD OF 'muslinlaw07.PercentNormal'. -/
def percentNormalCard : Claim7 := { stood := { row := percentNormalRow, standIns := [], harness := (true, "95dc3f1b4db95645a24648345f3571b6de6b778ed9dc26ff795be7d671125400"), looks := false }, kinds := [], alts := [], laidByText := true, laidKinds := [.data, .pinned], laidTests := true, laidLooks := .later }
def PercentNormalCardSaid : Prop := Claim7.holds Tryd.pinned (.plain (OpenSpec.ofChange percentNormalSpec)) percentNormalCard

/-- THE TIED CARD OF 'muslinlaw07.PercentParts'. -/
def percentPartsCard : Claim7 := { stood := { row := percentPartsRow, standIns := [], harness := (true, "95dc3f1b4db95645a24648345f3571b6de6b778ed9dc26ff795be7d671125400"), looks := false }, kinds := [], alts := [], laidByText := true, laidKinds := [.data, .pinned], laidTests := true, laidLooks := .later }
def PercentPartsCardSaid : Prop := Claim7.holds Tryd.pinned (.plain (OpenSpec.ofChange percentPartsSpec)) percentPartsCard

/-- THE SECOND FORM's CARD OF 'muslinlaw07.PercentBack'. -/
def percentBackUptoCard : Claim7 := { stood := { row := percentBackUptoRow, standIns := [], harness := (true, "95dc3f1b4db95645a24648345f3571b6de6b778ed9dc26ff795be7d671125400"), looks := false }, kinds := [], alts := [], laidByText := true, laidKinds := [.data, .pinned], laidTests := true, laidLooks := .later }
def PercentBackUptoCardSaid : Prop := Claim7.holds Tryd.pinned (.plain (OpenSpec.upto percentBackSpec)) percentBackUptoCard

/-- THE SECOND FORM's CARD OF 'muslinlaw07.PercentNormal'. -/
def percentNormalUptoCard : Claim7 := { stood := { row := percentNormalUptoRow, standIns := [], harness := (true, "95dc3f1b4db95645a24648345f3571b6de6b778ed9dc26ff795be7d671125400"), looks := false }, kinds := [], alts := [], laidByText := true, laidKinds := [.data, .pinned], laidTests := true, laidLooks := .later }
def PercentNormalUptoCardSaid : Prop := Claim7.holds Tryd.pinned (.plain (OpenSpec.upto percentNormalSpec)) percentNormalUptoCard

/-- THE SECOND FORM's CARD OF 'muslinlaw07.PercentParts'. -/
def percentPartsUptoCard : Claim7 := { stood := { row := percentPartsUptoRow, standIns := [], harness := (true, "95dc3f1b4db95645a24648345f3571b6de6b778ed9dc26ff795be7d671125400"), looks := false }, kinds := [], alts := [], laidByText := true, laidKinds := [.data, .pinned], laidTests := true, laidLooks := .later }
def PercentPartsUptoCardSaid : Prop := Claim7.holds Tryd.pinned (.plain (OpenSpec.upto percentPartsSpec)) percentPartsUptoCard
end Rows
end Go.Proofs.YthmdflmogeielaaDoor
