/-
  Gate, both sides.
-/
import Derived.Test.YtbpiagfmapbikaaImplGate
import Derived.Test.YtbpiagfmapbikaaSpecGate
