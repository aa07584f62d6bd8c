/-
  NARROWER THAN 'FOR EVERY INPUT', by the rows' own cells (each row's printed sentence says how): PipesCheck: laid · PipesBack: laid · PipesMay: laid · PipesOwn: laid.
  DERIVED. THE GIVEN ROWS OF THIS SEAT. 4 by the template 'for every input the law returns true; each argument reads behind the call as it read before'; 0 by the template 'total and deterministic' (their statements: YtmccbcficbbidaaGreatDoorTotals.lean).
  GIVEN WITH THE SEED: the statements are not yours to turn. If you find one false, say at which input.
  Laid BY PROGRAM, IN A SANDBOX (cutbox-rows.mjs): the forced cells as the released guide's own fill.sh prints them over the translation cdeddf0538b21044… (all of the seat's roots in one cut). By AI agents, Wed Nov 11 2026. No macro, syntax, notation, axiom, sorry.
-/
import Derived.Test.YtmccbcficbbidaaGreatDoorChecked
import GoSem.PinnedTables
import GoSem.Claim
import GoSem.ClaimJoined
import GoSem.ClaimMapViews
import Derived.JoinedTies
import Derived.KernelRfl
namespace Go.Proofs.YtmccbcficbbidaaGreatDoor
/- THE CELL 'sum', in the pinned program and in every row, IS THE sha256 OF THE DUMP (.gsa) THAT YtmccbcficbbidaaGreatDoorProg.lean LOADS. Nothing in Lean hashes anything: it is a label: what it is worth is what the hold of that sum in a sandbox is worth. -/
noncomputable def Tryz.pinned : Pinned := { name := "ytmccbcficbbidaagreatdoor", sum := "cdeddf0538b21044db93a104ed53d9eba56d54de208537146f28a8d422f42ab8", checked := Tryz.checked }
namespace Rows
def none {H : Type} : Left H := { results := [], args := [] }

/- WHAT THE LISTED PACKAGE-LEVEL VARIABLES READ AS WHEN THE CALL BEGINS. Each datum BY PROGRAM (the guide's laid-datum.mjs) off the statement by which the dump's own 'gosem.cut.vars' lays the variable. In a bare row this is a premise. The card (YtmccbcficbbidaaGreatDoorCards.lean) ties it to the program's text. -/
def laid_unicode_utf8_acceptRanges {H : Type} : DataW H := .agg [.agg [.lit (.int .u8 128), .lit (.int .u8 191)], .agg [.lit (.int .u8 160), .lit (.int .u8 191)], .agg [.lit (.int .u8 128), .lit (.int .u8 159)], .agg [.lit (.int .u8 144), .lit (.int .u8 191)], .agg [.lit (.int .u8 128), .lit (.int .u8 143)], .agg [.lit (.int .u8 0), .lit (.int .u8 0)], .agg [.lit (.int .u8 0), .lit (.int .u8 0)], .agg [.lit (.int .u8 0), .lit (.int .u8 0)], .agg [.lit (.int .u8 0), .lit (.int .u8 0)], .agg [.lit (.int .u8 0), .lit (.int .u8 0)], .agg [.lit (.int .u8 0), .lit (.int .u8 0)], .agg [.lit (.int .u8 0), .lit (.int .u8 0)], .agg [.lit (.int .u8 0), .lit (.int .u8 0)], .agg [.lit (.int .u8 0), .lit (.int .u8 0)], .agg [.lit (.int .u8 0), .lit (.int .u8 0)], .agg [.lit (.int .u8 0), .lit (.int .u8 0)]]
/-- One of Go's own tables, pinned by name: the form's constant. -/
def laid_unicode_utf8_first : DataW Unit := Go.Pinned.utf8First

/-- 'muslinlaw19.PipesCheck': WHATEVER THE INPUT: true; the input reads as it did. -/
def pipesCheckSpec : ChangeSpec := { name := "pipesCheck", fn := fun _ => fun
  | [d1, d2] => { results := [.lit (.bool true)], args := [d1, d2] }
  | _ => none }
def pipesCheckRow : OpenClaim := { program := "ytmccbcficbbidaagreatdoor", sum := "cdeddf0538b21044db93a104ed53d9eba56d54de208537146f28a8d422f42ab8", func := "muslin/muslinlaw19.PipesCheck", spec := "pipesCheck", inPlace := ["internal/bytealg.IndexByteString", "internal/abi.NoEscape", "internal/bytealg.IndexString", "internal/bytealg.CountString"], unfollowed := true, recurses := true, named := ["internal/bytealg.MaxLen", "unicode/utf8.first", "unicode/utf8.acceptRanges"], apart := false, laid := [("unicode/utf8.acceptRanges", laid_unicode_utf8_acceptRanges), ("unicode/utf8.first", laid_unicode_utf8_first)] }
def PipesCheckSaid : Prop := pipesCheckRow.holds Tryz.pinned (OpenSpec.ofChange pipesCheckSpec)

/-- ITS FALSE NEIGHBOUR: 'it returns false'. Refute it at one input. -/
def pipesCheckWrong : ChangeSpec := { name := "pipesCheck", fn := fun _ => fun
  | [d1, d2] => { results := [.lit (.bool false)], args := [d1, d2] }
  | _ => none }
def PipesCheckWrongFalsely : Prop := pipesCheckRow.holds Tryz.pinned (OpenSpec.ofChange pipesCheckWrong)

/-- 'muslinlaw19.PipesBack': WHATEVER THE INPUT: true; the input reads as it did. -/
def pipesBackSpec : ChangeSpec := { name := "pipesBack", fn := fun _ => fun
  | [d] => { results := [.lit (.bool true)], args := [d] }
  | _ => none }
def pipesBackRow : OpenClaim := { program := "ytmccbcficbbidaagreatdoor", sum := "cdeddf0538b21044db93a104ed53d9eba56d54de208537146f28a8d422f42ab8", func := "muslin/muslinlaw19.PipesBack", spec := "pipesBack", inPlace := ["internal/bytealg.IndexByteString", "internal/abi.NoEscape", "internal/bytealg.IndexString", "internal/bytealg.CountString"], unfollowed := true, recurses := true, named := ["internal/bytealg.MaxLen", "unicode/utf8.first", "unicode/utf8.acceptRanges"], apart := false, laid := [("unicode/utf8.acceptRanges", laid_unicode_utf8_acceptRanges), ("unicode/utf8.first", laid_unicode_utf8_first)] }
def PipesBackSaid : Prop := pipesBackRow.holds Tryz.pinned (OpenSpec.ofChange pipesBackSpec)

/-- ITS FALSE NEIGHBOUR: 'it returns false'. Refute it at one input. -/
def pipesBackWrong : ChangeSpec := { name := "pipesBack", fn := fun _ => fun
  | [d] => { results := [.lit (.bool false)], args := [d] }
  | _ => none }
def PipesBackWrongFalsely : Prop := pipesBackRow.holds Tryz.pinned (OpenSpec.ofChange pipesBackWrong)

/-- 'muslinlaw19.PipesMay': WHATEVER THE INPUT: true; the input reads as it did. -/
def pipesMaySpec : ChangeSpec := { name := "pipesMay", fn := fun _ => fun
  | [d] => { results := [.lit (.bool true)], args := [d] }
  | _ => none }
def pipesMayRow : OpenClaim := { program := "ytmccbcficbbidaagreatdoor", sum := "cdeddf0538b21044db93a104ed53d9eba56d54de208537146f28a8d422f42ab8", func := "muslin/muslinlaw19.PipesMay", spec := "pipesMay", inPlace := ["internal/bytealg.IndexByteString", "internal/abi.NoEscape", "internal/bytealg.IndexString", "internal/bytealg.CountString"], unfollowed := true, recurses := true, named := ["internal/bytealg.MaxLen", "unicode/utf8.first", "unicode/utf8.acceptRanges"], apart := false, laid := [("unicode/utf8.acceptRanges", laid_unicode_utf8_acceptRanges), ("unicode/utf8.first", laid_unicode_utf8_first)] }
def PipesMaySaid : Prop := pipesMayRow.holds Tryz.pinned (OpenSpec.ofChange pipesMaySpec)

/-- ITS FALSE NEIGHBOUR: 'it returns false'. Refute it at one input. -/
def pipesMayWrong : ChangeSpec := { name := "pipesMay", fn := fun _ => fun
  | [d] => { results := [.lit (.bool false)], args := [d] }
  | _ => none }
def PipesMayWrongFalsely : Prop := pipesMayRow.holds Tryz.pinned (OpenSpec.ofChange pipesMayWrong)

/-- 'muslinlaw19.PipesOwn': WHATEVER THE INPUT: true; the input reads as it did. -/
def pipesOwnSpec : ChangeSpec := { name := "pipesOwn", fn := fun _ => fun
  | [d] => { results := [.lit (.bool true)], args := [d] }
  | _ => none }
def pipesOwnRow : OpenClaim := { program := "ytmccbcficbbidaagreatdoor", sum := "cdeddf0538b21044db93a104ed53d9eba56d54de208537146f28a8d422f42ab8", func := "muslin/muslinlaw19.PipesOwn", spec := "pipesOwn", inPlace := ["internal/bytealg.IndexByteString", "internal/abi.NoEscape", "internal/bytealg.IndexString", "internal/bytealg.CountString"], unfollowed := true, recurses := true, named := ["internal/bytealg.MaxLen", "unicode/utf8.first", "unicode/utf8.acceptRanges"], apart := false, laid := [("unicode/utf8.acceptRanges", laid_unicode_utf8_acceptRanges), ("unicode/utf8.first", laid_unicode_utf8_first)] }
def PipesOwnSaid : Prop := pipesOwnRow.holds Tryz.pinned (OpenSpec.ofChange pipesOwnSpec)

/-- ITS FALSE NEIGHBOUR: 'it returns false'. Refute it at one input. -/
def pipesOwnWrong : ChangeSpec := { name := "pipesOwn", fn := fun _ => fun
  | [d] => { results := [.lit (.bool false)], args := [d] }
  | _ => none }
def PipesOwnWrongFalsely : Prop := pipesOwnRow.holds Tryz.pinned (OpenSpec.ofChange pipesOwnWrong)

/- THE SECOND FORM. 'bulk': how many values and letters a reading holds, each counted each time it is reached (what is shared counts as often as it is met; a slice's spare places count too). A statement '..UptoSaid' is the law's where the arguments, and the package variables that the reading takes, are together of bulk at most 1048576: NARROWER than '..Said'. Prove '..Said' where nothing that the law and all that it calls make is longer than what came in: it says more and counts as full. Else prove '..UptoSaid'. A law counts once. -/
mutual
def uptoBulk {H : Type} : DataW H → Nat
  | .lit (.string bytes) => bytes.length + 1
  | .lit _ => 1
  | .nil => 1
  | .ptr d => uptoBulk d + 1
  | .slice elems spare => uptoBulkAll elems + uptoBulkAll spare + 1
  | .agg parts => uptoBulkAll parts + 1
  | .iface _ d => uptoBulk d + 1
  | .map entries => uptoBulkEntries entries + 1
  | .held _ => 1
def uptoBulkAll {H : Type} : List (DataW H) → Nat
  | [] => 0
  | d :: r => uptoBulk d + uptoBulkAll r
def uptoBulkEntries {H : Type} : List (Lit × DataW H) → Nat
  | [] => 0
  | x :: r => uptoBulkEntry x + uptoBulkEntries r
def uptoBulkEntry {H : Type} : Lit × DataW H → Nat
  | (.string bytes, d) => bytes.length + uptoBulk d + 1
  | (_, d) => uptoBulk d + 1
 end
def uptoSmall : (H : Type) → List (DataW H) → Bool := fun _ ds => decide (uptoBulkAll ds ≤ 1048576)
def OpenSpec.upto (s : _root_.Go.ChangeSpec) : _root_.Go.OpenSpec := { _root_.Go.OpenSpec.ofChange s with cond := some uptoSmall }

/-- 'muslinlaw19.PipesCheck', WHERE WHAT IT READS IS OF BULK AT MOST 1048576: true; the input reads as it did. -/
def pipesCheckUptoRow : OpenClaim := { program := "ytmccbcficbbidaagreatdoor", sum := "cdeddf0538b21044db93a104ed53d9eba56d54de208537146f28a8d422f42ab8", func := "muslin/muslinlaw19.PipesCheck", spec := "pipesCheck", inPlace := ["internal/bytealg.IndexByteString", "internal/abi.NoEscape", "internal/bytealg.IndexString", "internal/bytealg.CountString"], unfollowed := true, recurses := true, named := ["internal/bytealg.MaxLen", "unicode/utf8.first", "unicode/utf8.acceptRanges"], apart := false, laid := [("unicode/utf8.acceptRanges", laid_unicode_utf8_acceptRanges), ("unicode/utf8.first", laid_unicode_utf8_first)], narrowed := true }
def PipesCheckUptoSaid : Prop := pipesCheckUptoRow.holds Tryz.pinned (OpenSpec.upto pipesCheckSpec)

/-- 'muslinlaw19.PipesBack', WHERE WHAT IT READS IS OF BULK AT MOST 1048576: true; the input reads as it did. -/
def pipesBackUptoRow : OpenClaim := { program := "ytmccbcficbbidaagreatdoor", sum := "cdeddf0538b21044db93a104ed53d9eba56d54de208537146f28a8d422f42ab8", func := "muslin/muslinlaw19.PipesBack", spec := "pipesBack", inPlace := ["internal/bytealg.IndexByteString", "internal/abi.NoEscape", "internal/bytealg.IndexString", "internal/bytealg.CountString"], unfollowed := true, recurses := true, named := ["internal/bytealg.MaxLen", "unicode/utf8.first", "unicode/utf8.acceptRanges"], apart := false, laid := [("unicode/utf8.acceptRanges", laid_unicode_utf8_acceptRanges), ("unicode/utf8.first", laid_unicode_utf8_first)], narrowed := true }
def PipesBackUptoSaid : Prop := pipesBackUptoRow.holds Tryz.pinned (OpenSpec.upto pipesBackSpec)

/-- 'muslinlaw19.PipesMay', WHERE WHAT IT READS IS OF BULK AT MOST 1048576: true; the input reads as it did. -/
def pipesMayUptoRow : OpenClaim := { program := "ytmccbcficbbidaagreatdoor", sum := "cdeddf0538b21044db93a104ed53d9eba56d54de208537146f28a8d422f42ab8", func := "muslin/muslinlaw19.PipesMay", spec := "pipesMay", inPlace := ["internal/bytealg.IndexByteString", "internal/abi.NoEscape", "internal/bytealg.IndexString", "internal/bytealg.CountString"], unfollowed := true, recurses := true, named := ["internal/bytealg.MaxLen", "unicode/utf8.first", "unicode/utf8.acceptRanges"], apart := false, laid := [("unicode/utf8.acceptRanges", laid_unicode_utf8_acceptRanges), ("unicode/utf8.first", laid_unicode_utf8_first)], narrowed := true }
def PipesMayUptoSaid : Prop := pipesMayUptoRow.holds Tryz.pinned (OpenSpec.upto pipesMaySpec)

/-- 'muslinlaw19.PipesOwn', WHERE WHAT IT READS IS OF BULK AT MOST 1048576: true; the input reads as it did. -/
def pipesOwnUptoRow : OpenClaim := { program := "ytmccbcficbbidaagreatdoor", sum := "cdeddf0538b21044db93a104ed53d9eba56d54de208537146f28a8d422f42ab8", func := "muslin/muslinlaw19.PipesOwn", spec := "pipesOwn", inPlace := ["internal/bytealg.IndexByteString", "internal/abi.NoEscape", "internal/bytealg.IndexString", "internal/bytealg.CountString"], unfollowed := true, recurses := true, named := ["internal/bytealg.MaxLen", "unicode/utf8.first", "unicode/utf8.acceptRanges"], apart := false, laid := [("unicode/utf8.acceptRanges", laid_unicode_utf8_acceptRanges), ("unicode/utf8.first", laid_unicode_utf8_first)], narrowed := true }
def PipesOwnUptoSaid : Prop := pipesOwnUptoRow.holds Tryz.pinned (OpenSpec.upto pipesOwnSpec)

end Rows
end Go.Proofs.YtmccbcficbbidaaGreatDoor
