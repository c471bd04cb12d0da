/-
  The laws of layer 12 over the program's own functions.
-/
import Derived.Test.YtddamcmbgbefpaaDoorLaw12D
import Derived.Test.YtddamcmbgbefpaaDoorVrE
import Derived.Test.YtddamcmbgbefpaaDoorVrH
