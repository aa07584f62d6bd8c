/-
  DERIVED. GIVEN WITH THE SEED: THE CARDS: each row of YtgfbednfiejlfaaGreatDoorRows.lean that lists a variable, with what it lists TIED to the program's text (the seventh form; the later family's looks); each row that meets fmt, with fmt's text TOLD by the authors' own Lean function (tested against real Go, not proved from fmt's source: count such statements apart). THE CARD IS WHAT COUNTS. Prove the row's statement (the work); the ties are given (YtgfbednfiejlfaaGreatDoorTie.lean); close each card by the builder's one call (the guide's Derived/Test/ToyasCard.lean, 'card_holds'). Laid BY PROGRAM, IN A SANDBOX (cutbox-door.mjs). By AI agents, Wed Nov 11 2026. No macro, syntax, notation, axiom, sorry.
-/
import Derived.Test.YtgfbednfiejlfaaGreatDoorRows
import GoSem.ClaimSeven
namespace Go.Proofs.YtgfbednfiejlfaaGreatDoor
namespace Rows

/-- THE TIED CARD OF 'muslinlaw05.LiteralReads'. -/
def literalReadsCard : Claim7 := { stood := { row := literalReadsRow, standIns := [], harness := (true, "957132aaa259f94b624f1e45a8b8992071291b14301aa75597751f3c2fbcfe8d"), looks := true }, kinds := [], alts := [], laidByText := true, laidKinds := [.data, .pinned], laidTests := true, laidLooks := .later }
def LiteralReadsCardSaid : Prop := Claim7.holds Tryz.pinned (.plain (OpenSpec.ofChange literalReadsSpec)) literalReadsCard

/-- THE TIED CARD OF 'muslinlaw05.LiteralCuts'. -/
def literalCutsCard : Claim7 := { stood := { row := literalCutsRow, standIns := [], harness := (true, "957132aaa259f94b624f1e45a8b8992071291b14301aa75597751f3c2fbcfe8d"), looks := true }, kinds := [], alts := [], laidByText := true, laidKinds := [.data, .pinned], laidTests := true, laidLooks := .later }
def LiteralCutsCardSaid : Prop := Claim7.holds Tryz.pinned (.plain (OpenSpec.ofChange literalCutsSpec)) literalCutsCard

/-- THE TIED CARD OF 'muslinlaw05.LiteralOwn'. -/
def literalOwnCard : Claim7 := { stood := { row := literalOwnRow, standIns := [], harness := (true, "957132aaa259f94b624f1e45a8b8992071291b14301aa75597751f3c2fbcfe8d"), looks := true }, kinds := [], alts := [], laidByText := true, laidKinds := [.data, .pinned], laidTests := true, laidLooks := .later }
def LiteralOwnCardSaid : Prop := Claim7.holds Tryz.pinned (.plain (OpenSpec.ofChange literalOwnSpec)) literalOwnCard

/-- THE SECOND FORM's CARD OF 'muslinlaw05.LiteralReads'. -/
def literalReadsUptoCard : Claim7 := { stood := { row := literalReadsUptoRow, standIns := [], harness := (true, "957132aaa259f94b624f1e45a8b8992071291b14301aa75597751f3c2fbcfe8d"), looks := true }, kinds := [], alts := [], laidByText := true, laidKinds := [.data, .pinned], laidTests := true, laidLooks := .later }
def LiteralReadsUptoCardSaid : Prop := Claim7.holds Tryz.pinned (.plain (OpenSpec.upto literalReadsSpec)) literalReadsUptoCard

/-- THE SECOND FORM's CARD OF 'muslinlaw05.LiteralCuts'. -/
def literalCutsUptoCard : Claim7 := { stood := { row := literalCutsUptoRow, standIns := [], harness := (true, "957132aaa259f94b624f1e45a8b8992071291b14301aa75597751f3c2fbcfe8d"), looks := true }, kinds := [], alts := [], laidByText := true, laidKinds := [.data, .pinned], laidTests := true, laidLooks := .later }
def LiteralCutsUptoCardSaid : Prop := Claim7.holds Tryz.pinned (.plain (OpenSpec.upto literalCutsSpec)) literalCutsUptoCard

/-- THE SECOND FORM's CARD OF 'muslinlaw05.LiteralOwn'. -/
def literalOwnUptoCard : Claim7 := { stood := { row := literalOwnUptoRow, standIns := [], harness := (true, "957132aaa259f94b624f1e45a8b8992071291b14301aa75597751f3c2fbcfe8d"), looks := true }, kinds := [], alts := [], laidByText := true, laidKinds := [.data, .pinned], laidTests := true, laidLooks := .later }
def LiteralOwnUptoCardSaid : Prop := Claim7.holds Tryz.pinned (.plain (OpenSpec.upto literalOwnSpec)) literalOwnUptoCard
end Rows
end Go.Proofs.YtgfbednfiejlfaaGreatDoor
