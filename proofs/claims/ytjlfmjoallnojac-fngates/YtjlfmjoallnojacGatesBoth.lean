/-
  Gates, both sides.
-/
import Derived.Test.YtjlfmjoallnojacImplGates
import Derived.Test.YtjlfmjoallnojacSpecGates
