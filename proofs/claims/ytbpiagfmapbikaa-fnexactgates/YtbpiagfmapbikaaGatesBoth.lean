/-
  Gates, both sides.
-/
import Derived.Test.YtbpiagfmapbikaaImplGates
import Derived.Test.YtbpiagfmapbikaaSpecGates
