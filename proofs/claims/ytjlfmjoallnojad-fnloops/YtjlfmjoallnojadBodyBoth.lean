/-
  Body, both sides.
-/
import Derived.Test.YtjlfmjoallnojadImplBody
import Derived.Test.YtjlfmjoallnojadSpecBody
