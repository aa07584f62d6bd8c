/-
  DERIVED. GIVEN WITH THE SEED: THE CARDS: each row of YtjchebnjbfhooaaDoorRows.lean that lists a variable, with what it lists TIED to the program's text (the seventh form; the later family's looks); each row that meets fmt, with fmt's text TOLD by the authors' own Lean function (tested against real Go, not proved from fmt's source: count such statements apart). THE CARD IS WHAT COUNTS. Prove the row's statement (the work); the ties are given (YtjchebnjbfhooaaDoorTie.lean); close each card by the builder's one call (the guide's Derived/Test/ToyasCard.lean, 'card_holds'). Laid BY PROGRAM, IN A SANDBOX (cutbox-door.mjs). By AI agents, Wed Nov 11 2026. No macro, syntax, notation, axiom, sorry.
-/
import Derived.Test.YtjchebnjbfhooaaDoorRows
import GoSem.ClaimSeven
namespace Go.Proofs.YtjchebnjbfhooaaDoor
namespace Rows

/-- THE TIED CARD OF 'muslinlaw08.SchemesTells'. -/
def schemesTellsCard : Claim7 := { stood := { row := schemesTellsRow, standIns := [], harness := (true, "1de3506cdfbb184076fa7129dfddaa0c3a887dad5b42c643f9a855b228edf596"), looks := false }, kinds := [], alts := [], laidByText := true, laidKinds := [.data, .pinned], laidTests := true, laidLooks := .later }
def SchemesTellsCardSaid : Prop := Claim7.holds Tryd.pinned (.plain (OpenSpec.ofChange schemesTellsSpec)) schemesTellsCard

/-- THE TIED CARD OF 'muslinlaw08.SchemesFilters'. -/
def schemesFiltersCard : Claim7 := { stood := { row := schemesFiltersRow, standIns := [], harness := (true, "1de3506cdfbb184076fa7129dfddaa0c3a887dad5b42c643f9a855b228edf596"), looks := false }, kinds := [], alts := [], laidByText := true, laidKinds := [.data, .pinned], laidTests := true, laidLooks := .later }
def SchemesFiltersCardSaid : Prop := Claim7.holds Tryd.pinned (.plain (OpenSpec.ofChange schemesFiltersSpec)) schemesFiltersCard

/-- THE TIED CARD OF 'muslinlaw08.SchemesHidden'. -/
def schemesHiddenCard : Claim7 := { stood := { row := schemesHiddenRow, standIns := [], harness := (true, "1de3506cdfbb184076fa7129dfddaa0c3a887dad5b42c643f9a855b228edf596"), looks := false }, kinds := [], alts := [], laidByText := true, laidKinds := [.data, .pinned], laidTests := true, laidLooks := .later }
def SchemesHiddenCardSaid : Prop := Claim7.holds Tryd.pinned (.plain (OpenSpec.ofChange schemesHiddenSpec)) schemesHiddenCard

/-- THE SECOND FORM's CARD OF 'muslinlaw08.SchemesTells'. -/
def schemesTellsUptoCard : Claim7 := { stood := { row := schemesTellsUptoRow, standIns := [], harness := (true, "1de3506cdfbb184076fa7129dfddaa0c3a887dad5b42c643f9a855b228edf596"), looks := false }, kinds := [], alts := [], laidByText := true, laidKinds := [.data, .pinned], laidTests := true, laidLooks := .later }
def SchemesTellsUptoCardSaid : Prop := Claim7.holds Tryd.pinned (.plain (OpenSpec.upto schemesTellsSpec)) schemesTellsUptoCard

/-- THE SECOND FORM's CARD OF 'muslinlaw08.SchemesFilters'. -/
def schemesFiltersUptoCard : Claim7 := { stood := { row := schemesFiltersUptoRow, standIns := [], harness := (true, "1de3506cdfbb184076fa7129dfddaa0c3a887dad5b42c643f9a855b228edf596"), looks := false }, kinds := [], alts := [], laidByText := true, laidKinds := [.data, .pinned], laidTests := true, laidLooks := .later }
def SchemesFiltersUptoCardSaid : Prop := Claim7.holds Tryd.pinned (.plain (OpenSpec.upto schemesFiltersSpec)) schemesFiltersUptoCard

/-- THE SECOND FORM's CARD OF 'muslinlaw08.SchemesHidden'. -/
def schemesHiddenUptoCard : Claim7 := { stood := { row := schemesHiddenUptoRow, standIns := [], harness := (true, "1de3506cdfbb184076fa7129dfddaa0c3a887dad5b42c643f9a855b228edf596"), looks := false }, kinds := [], alts := [], laidByText := true, laidKinds := [.data, .pinned], laidTests := true, laidLooks := .later }
def SchemesHiddenUptoCardSaid : Prop := Claim7.holds Tryd.pinned (.plain (OpenSpec.upto schemesHiddenSpec)) schemesHiddenUptoCard
end Rows
end Go.Proofs.YtjchebnjbfhooaaDoor
