/-
  Contracts of the page's answers on what an octet is: a letter, a digit; they change nothing.
-/
import Derived.Test.YtbchjmldjdhjiaaOctPure
import Derived.Test.YtbchjmldjdhjiaaProg
namespace Go.Proofs.Ytbchjmldjdhjiaa.Oct
open Go.RowKit

end Go.Proofs.Ytbchjmldjdhjiaa.Oct
