/-
  Contracts of octets.none, digitValue, Lower, Upper, Name, Starts, Trim.
-/
import Derived.Test.YtbchjmldjdhjiaaOctMade
import Derived.Lib.Bytealg
namespace Go.Proofs.Ytbchjmldjdhjiaa.Oct
open Go.RowKit

theorem digit_table : ∀ k : Fin 256, Lib.indexByte [48, 49, 50, 51, 52, 53, 54, 55, 56, 57, 97, 98, 99, 100, 101, 102] (lowI (k.val : Int)).toNat.toUInt8 = hexI (k.val : Int) := by decide +kernel

end Go.Proofs.Ytbchjmldjdhjiaa.Oct
