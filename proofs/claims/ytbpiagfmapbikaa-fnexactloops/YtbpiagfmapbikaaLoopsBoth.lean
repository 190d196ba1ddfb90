/-
  Loops, both sides.
-/
import Derived.Test.YtbpiagfmapbikaaImplLoops
import Derived.Test.YtbpiagfmapbikaaMarkedB
