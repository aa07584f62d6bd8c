/-
  No cell of these rows narrows 'for every input' (looked for: loops, veiled, ifaces, maps, wideKeys, modest, calm, conditions, laid).
  DERIVED. THE GIVEN ROWS OF THIS SEAT. 3 by the template 'for every input the law returns true; each argument reads behind the call as it read before'; 0 by the template 'total and deterministic' (their statements: YtomclpaedbgdfaaTotals.lean).
  GIVEN WITH THE SEED: the statements are not yours to turn. If you find one false, say at which input.
  Laid BY PROGRAM, IN A SANDBOX (cutbox-rows.mjs): the forced cells as the released guide's own fill.sh prints them over the translation 314bb28f501620d1… (all of the seat's roots in one cut). By AI agents, Wed Nov 11 2026. No macro, syntax, notation, axiom, sorry.
-/
import Derived.Test.YtomclpaedbgdfaaChecked
import GoSem.Claim
import GoSem.ClaimJoined
import GoSem.ClaimMapViews
import Derived.JoinedTies
import Derived.KernelRfl
namespace Go.Proofs.Ytomclpaedbgdfaa
/- THE CELL 'sum', in the pinned program and in every row, IS THE sha256 OF THE DUMP (.gsa) THAT YtomclpaedbgdfaaProg.lean LOADS. Nothing in Lean hashes anything: it is a label: what it is worth is what the hold of that sum in a sandbox is worth. -/
noncomputable def Try.pinned : Pinned := { name := "ytomclpaedbgdfaa", sum := "314bb28f501620d152bffb865a2e4c2dcdd8a5046d8af3ad65ae5c68dd0971fd", checked := Try.checked }
namespace Rows
def none {H : Type} : Left H := { results := [], args := [] }

/-- 'muslinlaw14.UrlscanSchemes': WHATEVER THE INPUT: true; the input reads as it did. -/
def urlscanSchemesSpec : ChangeSpec := { name := "urlscanSchemes", fn := fun _ => fun
  | [d] => { results := [.lit (.bool true)], args := [d] }
  | _ => none }
def urlscanSchemesRow : OpenClaim := { program := "ytomclpaedbgdfaa", sum := "314bb28f501620d152bffb865a2e4c2dcdd8a5046d8af3ad65ae5c68dd0971fd", func := "muslin/muslinlaw14.UrlscanSchemes", spec := "urlscanSchemes", unfollowed := true, recurses := true, apart := false }
def UrlscanSchemesSaid : Prop := urlscanSchemesRow.holds Try.pinned (OpenSpec.ofChange urlscanSchemesSpec)

/-- ITS FALSE NEIGHBOUR: 'it returns false'. Refute it at one input. -/
def urlscanSchemesWrong : ChangeSpec := { name := "urlscanSchemes", fn := fun _ => fun
  | [d] => { results := [.lit (.bool false)], args := [d] }
  | _ => none }
def UrlscanSchemesWrongFalsely : Prop := urlscanSchemesRow.holds Try.pinned (OpenSpec.ofChange urlscanSchemesWrong)

/-- 'muslinlaw14.UrlscanParts': WHATEVER THE INPUT: true; the input reads as it did. -/
def urlscanPartsSpec : ChangeSpec := { name := "urlscanParts", fn := fun _ => fun
  | [d1, d2] => { results := [.lit (.bool true)], args := [d1, d2] }
  | _ => none }
def urlscanPartsRow : OpenClaim := { program := "ytomclpaedbgdfaa", sum := "314bb28f501620d152bffb865a2e4c2dcdd8a5046d8af3ad65ae5c68dd0971fd", func := "muslin/muslinlaw14.UrlscanParts", spec := "urlscanParts", unfollowed := true, recurses := true, apart := false }
def UrlscanPartsSaid : Prop := urlscanPartsRow.holds Try.pinned (OpenSpec.ofChange urlscanPartsSpec)

/-- ITS FALSE NEIGHBOUR: 'it returns false'. Refute it at one input. -/
def urlscanPartsWrong : ChangeSpec := { name := "urlscanParts", fn := fun _ => fun
  | [d1, d2] => { results := [.lit (.bool false)], args := [d1, d2] }
  | _ => none }
def UrlscanPartsWrongFalsely : Prop := urlscanPartsRow.holds Try.pinned (OpenSpec.ofChange urlscanPartsWrong)

/-- 'muslinlaw14.UrlscanQuery': WHATEVER THE INPUT: true; the input reads as it did. -/
def urlscanQuerySpec : ChangeSpec := { name := "urlscanQuery", fn := fun _ => fun
  | [d1, d2] => { results := [.lit (.bool true)], args := [d1, d2] }
  | _ => none }
def urlscanQueryRow : OpenClaim := { program := "ytomclpaedbgdfaa", sum := "314bb28f501620d152bffb865a2e4c2dcdd8a5046d8af3ad65ae5c68dd0971fd", func := "muslin/muslinlaw14.UrlscanQuery", spec := "urlscanQuery", unfollowed := true, recurses := true, apart := false }
def UrlscanQuerySaid : Prop := urlscanQueryRow.holds Try.pinned (OpenSpec.ofChange urlscanQuerySpec)

/-- ITS FALSE NEIGHBOUR: 'it returns false'. Refute it at one input. -/
def urlscanQueryWrong : ChangeSpec := { name := "urlscanQuery", fn := fun _ => fun
  | [d1, d2] => { results := [.lit (.bool false)], args := [d1, d2] }
  | _ => none }
def UrlscanQueryWrongFalsely : Prop := urlscanQueryRow.holds Try.pinned (OpenSpec.ofChange urlscanQueryWrong)

/- THE SECOND FORM. 'bulk': how many values and letters a reading holds, each counted each time it is reached (what is shared counts as often as it is met; a slice's spare places count too). A statement '..UptoSaid' is the law's where the arguments, and the package variables that the reading takes, are together of bulk at most 1048576: NARROWER than '..Said'. Prove '..Said' where nothing that the law and all that it calls make is longer than what came in: it says more and counts as full. Else prove '..UptoSaid'. A law counts once. -/
mutual
def uptoBulk {H : Type} : DataW H → Nat
  | .lit (.string bytes) => bytes.length + 1
  | .lit _ => 1
  | .nil => 1
  | .ptr d => uptoBulk d + 1
  | .slice elems spare => uptoBulkAll elems + uptoBulkAll spare + 1
  | .agg parts => uptoBulkAll parts + 1
  | .iface _ d => uptoBulk d + 1
  | .map entries => uptoBulkEntries entries + 1
  | .held _ => 1
def uptoBulkAll {H : Type} : List (DataW H) → Nat
  | [] => 0
  | d :: r => uptoBulk d + uptoBulkAll r
def uptoBulkEntries {H : Type} : List (Lit × DataW H) → Nat
  | [] => 0
  | x :: r => uptoBulkEntry x + uptoBulkEntries r
def uptoBulkEntry {H : Type} : Lit × DataW H → Nat
  | (.string bytes, d) => bytes.length + uptoBulk d + 1
  | (_, d) => uptoBulk d + 1
 end
def uptoSmall : (H : Type) → List (DataW H) → Bool := fun _ ds => decide (uptoBulkAll ds ≤ 1048576)
def OpenSpec.upto (s : _root_.Go.ChangeSpec) : _root_.Go.OpenSpec := { _root_.Go.OpenSpec.ofChange s with cond := some uptoSmall }

/-- 'muslinlaw14.UrlscanSchemes', WHERE WHAT IT READS IS OF BULK AT MOST 1048576: true; the input reads as it did. -/
def urlscanSchemesUptoRow : OpenClaim := { program := "ytomclpaedbgdfaa", sum := "314bb28f501620d152bffb865a2e4c2dcdd8a5046d8af3ad65ae5c68dd0971fd", func := "muslin/muslinlaw14.UrlscanSchemes", spec := "urlscanSchemes", unfollowed := true, recurses := true, apart := false, narrowed := true }
def UrlscanSchemesUptoSaid : Prop := urlscanSchemesUptoRow.holds Try.pinned (OpenSpec.upto urlscanSchemesSpec)

/-- 'muslinlaw14.UrlscanParts', WHERE WHAT IT READS IS OF BULK AT MOST 1048576: true; the input reads as it did. -/
def urlscanPartsUptoRow : OpenClaim := { program := "ytomclpaedbgdfaa", sum := "314bb28f501620d152bffb865a2e4c2dcdd8a5046d8af3ad65ae5c68dd0971fd", func := "muslin/muslinlaw14.UrlscanParts", spec := "urlscanParts", unfollowed := true, recurses := true, apart := false, narrowed := true }
def UrlscanPartsUptoSaid : Prop := urlscanPartsUptoRow.holds Try.pinned (OpenSpec.upto urlscanPartsSpec)

/-- 'muslinlaw14.UrlscanQuery', WHERE WHAT IT READS IS OF BULK AT MOST 1048576: true; the input reads as it did. -/
def urlscanQueryUptoRow : OpenClaim := { program := "ytomclpaedbgdfaa", sum := "314bb28f501620d152bffb865a2e4c2dcdd8a5046d8af3ad65ae5c68dd0971fd", func := "muslin/muslinlaw14.UrlscanQuery", spec := "urlscanQuery", unfollowed := true, recurses := true, apart := false, narrowed := true }
def UrlscanQueryUptoSaid : Prop := urlscanQueryUptoRow.holds Try.pinned (OpenSpec.upto urlscanQuerySpec)

end Rows
end Go.Proofs.Ytomclpaedbgdfaa
