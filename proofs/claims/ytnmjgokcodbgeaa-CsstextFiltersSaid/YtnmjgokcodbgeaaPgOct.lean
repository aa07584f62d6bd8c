/-
  Contracts of the page's answers on what an octet is: a letter, a digit; they change nothing.
-/
import Derived.Test.YtnmjgokcodbgeaaOctPure
import Derived.Test.YtnmjgokcodbgeaaProg
namespace Go.Proofs.Ytnmjgokcodbgeaa.Oct
open Go.RowKit

end Go.Proofs.Ytnmjgokcodbgeaa.Oct
