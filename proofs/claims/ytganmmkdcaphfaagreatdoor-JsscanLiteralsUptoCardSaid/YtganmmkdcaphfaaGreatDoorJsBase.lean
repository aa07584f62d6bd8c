/-
  What the laws of jsscan are built upon: the code's Read and the page's Check, Literal and Inside; octets' Trim; plain facts on a script's parts.
-/
import Derived.Test.YtganmmkdcaphfaaGreatDoorJsBaseP25
import Derived.Test.YtganmmkdcaphfaaGreatDoorJsBaseP26
import Derived.Test.YtganmmkdcaphfaaGreatDoorJsBaseP30
import Derived.Test.YtganmmkdcaphfaaGreatDoorJsBaseP29
import Derived.Test.YtganmmkdcaphfaaGreatDoorJsBaseP19
import Derived.Test.YtganmmkdcaphfaaGreatDoorJsBaseP18
import Derived.Test.YtganmmkdcaphfaaGreatDoorJsBaseP7
import Derived.Test.YtganmmkdcaphfaaGreatDoorJsBaseP31
