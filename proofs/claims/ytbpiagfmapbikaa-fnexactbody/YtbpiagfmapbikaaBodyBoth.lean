/-
  Body, both sides.
-/
import Derived.Test.YtbpiagfmapbikaaImplBody
import Derived.Test.YtbpiagfmapbikaaSpecBody
