/-
  Loops, both sides.
-/
import Derived.Test.YtjlfmjoallnojadImplLoops
import Derived.Test.YtjlfmjoallnojadMarkedB
