/-
  Contracts of the page's answers on what an octet is: a letter, a digit; they change nothing.
-/
import Derived.Test.YtppclkecfggkiaaDoorOctPure
import Derived.Test.YtppclkecfggkiaaDoorProg
namespace Go.Proofs.YtppclkecfggkiaaDoor.Oct
open Go.RowKit

end Go.Proofs.YtppclkecfggkiaaDoor.Oct
