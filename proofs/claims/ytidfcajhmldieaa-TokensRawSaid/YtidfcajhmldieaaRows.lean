/-
  No cell of these rows narrows 'for every input' (looked for: loops, veiled, ifaces, maps, wideKeys, modest, calm, conditions, laid).
  DERIVED. THE GIVEN ROWS OF THIS SEAT. 3 by the template 'for every input the law returns true; each argument reads behind the call as it read before'; 0 by the template 'total and deterministic' (their statements: YtidfcajhmldieaaTotals.lean).
  GIVEN WITH THE SEED: the statements are not yours to turn. If you find one false, say at which input.
  Laid BY PROGRAM, IN A SANDBOX (cutbox-rows.mjs): the forced cells as the released guide's own fill.sh prints them over the translation 182b5a65efedff15… (all of the seat's roots in one cut). By AI agents, Wed Nov 11 2026. No macro, syntax, notation, axiom, sorry.
-/
import Derived.Test.YtidfcajhmldieaaChecked
import GoSem.Claim
import GoSem.ClaimJoined
import GoSem.ClaimMapViews
import Derived.JoinedTies
import Derived.KernelRfl
namespace Go.Proofs.Ytidfcajhmldieaa
/- THE CELL 'sum', in the pinned program and in every row, IS THE sha256 OF THE DUMP (.gsa) THAT YtidfcajhmldieaaProg.lean LOADS. Nothing in Lean hashes anything: it is a label: what it is worth is what the hold of that sum in a sandbox is worth. -/
noncomputable def Try.pinned : Pinned := { name := "ytidfcajhmldieaa", sum := "182b5a65efedff156984b983f85ba1053ac3c0f292ce779d6d5a5ea7a0c49b42", checked := Try.checked }
namespace Rows
def none {H : Type} : Left H := { results := [], args := [] }

/-- 'muslinlaw12.TokensPlain': WHATEVER THE INPUT: true; the input reads as it did. -/
def tokensPlainSpec : ChangeSpec := { name := "tokensPlain", fn := fun _ => fun
  | [d] => { results := [.lit (.bool true)], args := [d] }
  | _ => none }
def tokensPlainRow : OpenClaim := { program := "ytidfcajhmldieaa", sum := "182b5a65efedff156984b983f85ba1053ac3c0f292ce779d6d5a5ea7a0c49b42", func := "muslin/muslinlaw12.TokensPlain", spec := "tokensPlain", inPlace := ["internal/bytealg.IndexByteString", "internal/bytealg.IndexString", "internal/abi.NoEscape"], unfollowed := true, recurses := true, named := ["internal/bytealg.MaxLen"], apart := false }
def TokensPlainSaid : Prop := tokensPlainRow.holds Try.pinned (OpenSpec.ofChange tokensPlainSpec)

/-- ITS FALSE NEIGHBOUR: 'it returns false'. Refute it at one input. -/
def tokensPlainWrong : ChangeSpec := { name := "tokensPlain", fn := fun _ => fun
  | [d] => { results := [.lit (.bool false)], args := [d] }
  | _ => none }
def TokensPlainWrongFalsely : Prop := tokensPlainRow.holds Try.pinned (OpenSpec.ofChange tokensPlainWrong)

/-- 'muslinlaw12.TokensValues': WHATEVER THE INPUT: true; the input reads as it did. -/
def tokensValuesSpec : ChangeSpec := { name := "tokensValues", fn := fun _ => fun
  | [d] => { results := [.lit (.bool true)], args := [d] }
  | _ => none }
def tokensValuesRow : OpenClaim := { program := "ytidfcajhmldieaa", sum := "182b5a65efedff156984b983f85ba1053ac3c0f292ce779d6d5a5ea7a0c49b42", func := "muslin/muslinlaw12.TokensValues", spec := "tokensValues", inPlace := ["internal/bytealg.IndexByteString", "internal/bytealg.IndexString", "internal/abi.NoEscape"], unfollowed := true, recurses := true, named := ["internal/bytealg.MaxLen"], apart := false }
def TokensValuesSaid : Prop := tokensValuesRow.holds Try.pinned (OpenSpec.ofChange tokensValuesSpec)

/-- ITS FALSE NEIGHBOUR: 'it returns false'. Refute it at one input. -/
def tokensValuesWrong : ChangeSpec := { name := "tokensValues", fn := fun _ => fun
  | [d] => { results := [.lit (.bool false)], args := [d] }
  | _ => none }
def TokensValuesWrongFalsely : Prop := tokensValuesRow.holds Try.pinned (OpenSpec.ofChange tokensValuesWrong)

/-- 'muslinlaw12.TokensRaw': WHATEVER THE INPUT: true; the input reads as it did. -/
def tokensRawSpec : ChangeSpec := { name := "tokensRaw", fn := fun _ => fun
  | [d1, d2] => { results := [.lit (.bool true)], args := [d1, d2] }
  | _ => none }
def tokensRawRow : OpenClaim := { program := "ytidfcajhmldieaa", sum := "182b5a65efedff156984b983f85ba1053ac3c0f292ce779d6d5a5ea7a0c49b42", func := "muslin/muslinlaw12.TokensRaw", spec := "tokensRaw", inPlace := ["internal/bytealg.IndexByteString", "internal/bytealg.IndexString", "internal/abi.NoEscape"], unfollowed := true, recurses := true, named := ["internal/bytealg.MaxLen"], apart := false }
def TokensRawSaid : Prop := tokensRawRow.holds Try.pinned (OpenSpec.ofChange tokensRawSpec)

/-- ITS FALSE NEIGHBOUR: 'it returns false'. Refute it at one input. -/
def tokensRawWrong : ChangeSpec := { name := "tokensRaw", fn := fun _ => fun
  | [d1, d2] => { results := [.lit (.bool false)], args := [d1, d2] }
  | _ => none }
def TokensRawWrongFalsely : Prop := tokensRawRow.holds Try.pinned (OpenSpec.ofChange tokensRawWrong)

/- THE SECOND FORM. 'bulk': how many values and letters a reading holds, each counted each time it is reached (what is shared counts as often as it is met; a slice's spare places count too). A statement '..UptoSaid' is the law's where the arguments, and the package variables that the reading takes, are together of bulk at most 1048576: NARROWER than '..Said'. Prove '..Said' where nothing that the law and all that it calls make is longer than what came in: it says more and counts as full. Else prove '..UptoSaid'. A law counts once. -/
mutual
def uptoBulk {H : Type} : DataW H → Nat
  | .lit (.string bytes) => bytes.length + 1
  | .lit _ => 1
  | .nil => 1
  | .ptr d => uptoBulk d + 1
  | .slice elems spare => uptoBulkAll elems + uptoBulkAll spare + 1
  | .agg parts => uptoBulkAll parts + 1
  | .iface _ d => uptoBulk d + 1
  | .map entries => uptoBulkEntries entries + 1
  | .held _ => 1
def uptoBulkAll {H : Type} : List (DataW H) → Nat
  | [] => 0
  | d :: r => uptoBulk d + uptoBulkAll r
def uptoBulkEntries {H : Type} : List (Lit × DataW H) → Nat
  | [] => 0
  | x :: r => uptoBulkEntry x + uptoBulkEntries r
def uptoBulkEntry {H : Type} : Lit × DataW H → Nat
  | (.string bytes, d) => bytes.length + uptoBulk d + 1
  | (_, d) => uptoBulk d + 1
 end
def uptoSmall : (H : Type) → List (DataW H) → Bool := fun _ ds => decide (uptoBulkAll ds ≤ 1048576)
def OpenSpec.upto (s : _root_.Go.ChangeSpec) : _root_.Go.OpenSpec := { _root_.Go.OpenSpec.ofChange s with cond := some uptoSmall }

/-- 'muslinlaw12.TokensPlain', WHERE WHAT IT READS IS OF BULK AT MOST 1048576: true; the input reads as it did. -/
def tokensPlainUptoRow : OpenClaim := { program := "ytidfcajhmldieaa", sum := "182b5a65efedff156984b983f85ba1053ac3c0f292ce779d6d5a5ea7a0c49b42", func := "muslin/muslinlaw12.TokensPlain", spec := "tokensPlain", inPlace := ["internal/bytealg.IndexByteString", "internal/bytealg.IndexString", "internal/abi.NoEscape"], unfollowed := true, recurses := true, named := ["internal/bytealg.MaxLen"], apart := false, narrowed := true }
def TokensPlainUptoSaid : Prop := tokensPlainUptoRow.holds Try.pinned (OpenSpec.upto tokensPlainSpec)

/-- 'muslinlaw12.TokensValues', WHERE WHAT IT READS IS OF BULK AT MOST 1048576: true; the input reads as it did. -/
def tokensValuesUptoRow : OpenClaim := { program := "ytidfcajhmldieaa", sum := "182b5a65efedff156984b983f85ba1053ac3c0f292ce779d6d5a5ea7a0c49b42", func := "muslin/muslinlaw12.TokensValues", spec := "tokensValues", inPlace := ["internal/bytealg.IndexByteString", "internal/bytealg.IndexString", "internal/abi.NoEscape"], unfollowed := true, recurses := true, named := ["internal/bytealg.MaxLen"], apart := false, narrowed := true }
def TokensValuesUptoSaid : Prop := tokensValuesUptoRow.holds Try.pinned (OpenSpec.upto tokensValuesSpec)

/-- 'muslinlaw12.TokensRaw', WHERE WHAT IT READS IS OF BULK AT MOST 1048576: true; the input reads as it did. -/
def tokensRawUptoRow : OpenClaim := { program := "ytidfcajhmldieaa", sum := "182b5a65efedff156984b983f85ba1053ac3c0f292ce779d6d5a5ea7a0c49b42", func := "muslin/muslinlaw12.TokensRaw", spec := "tokensRaw", inPlace := ["internal/bytealg.IndexByteString", "internal/bytealg.IndexString", "internal/abi.NoEscape"], unfollowed := true, recurses := true, named := ["internal/bytealg.MaxLen"], apart := false, narrowed := true }
def TokensRawUptoSaid : Prop := tokensRawUptoRow.holds Try.pinned (OpenSpec.upto tokensRawSpec)

end Rows
end Go.Proofs.Ytidfcajhmldieaa
