/-
  Contracts of the page's answers on what an octet is: a letter, a digit; they change nothing.
-/
import Derived.Test.YtomclpaedbgdfaaOctPure
import Derived.Test.YtomclpaedbgdfaaProg
namespace Go.Proofs.Ytomclpaedbgdfaa.Oct
open Go.RowKit

end Go.Proofs.Ytomclpaedbgdfaa.Oct
