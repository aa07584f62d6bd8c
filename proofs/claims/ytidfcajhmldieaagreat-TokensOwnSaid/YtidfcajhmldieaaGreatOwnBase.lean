/-
  What the law TokensOwn is built upon: the code's Tokens, the page's, and the page's SameAll.
-/
import Derived.Test.YtidfcajhmldieaaGreatOwnBaseP29
import Derived.Test.YtidfcajhmldieaaGreatOwnBaseP40
