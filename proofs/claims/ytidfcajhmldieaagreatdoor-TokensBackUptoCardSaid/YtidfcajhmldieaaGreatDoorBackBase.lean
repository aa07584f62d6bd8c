/-
  What the law TokensBack is built upon: the code's Tokens, the page's SameAll, what is written (plain).
-/
import Derived.Test.YtidfcajhmldieaaGreatDoorBackBaseP26
import Derived.Test.YtidfcajhmldieaaGreatDoorBackBaseP27
import Derived.Test.YtidfcajhmldieaaGreatDoorBackBaseP6
import Derived.Test.YtidfcajhmldieaaGreatDoorBackBaseP18
import Derived.Test.YtidfcajhmldieaaGreatDoorBackBaseP14
