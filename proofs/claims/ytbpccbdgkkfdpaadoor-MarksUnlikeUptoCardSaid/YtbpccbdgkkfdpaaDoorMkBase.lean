/-
  What the laws of states (marks) are built upon: the page's Check, and the code's tables, percent and number.
-/
import Derived.Test.YtbpccbdgkkfdpaaDoorMkBaseP3
import Derived.Test.YtbpccbdgkkfdpaaDoorMkBaseP5
import Derived.Test.YtbpccbdgkkfdpaaDoorMkBaseP10
import Derived.Test.YtbpccbdgkkfdpaaDoorMkBaseP11
import Derived.Test.YtbpccbdgkkfdpaaDoorMkBaseP12
