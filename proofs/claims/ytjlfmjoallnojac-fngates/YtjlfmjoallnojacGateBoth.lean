/-
  Gate, both sides.
-/
import Derived.Test.YtjlfmjoallnojacImplGate
import Derived.Test.YtjlfmjoallnojacSpecGate
