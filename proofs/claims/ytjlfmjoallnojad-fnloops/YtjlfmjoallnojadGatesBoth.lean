/-
  Gates, both sides.
-/
import Derived.Test.YtjlfmjoallnojadImplGates
import Derived.Test.YtjlfmjoallnojadSpecGates
