/-
  What the statement on pages asks of the program, all of it.
-/
import Derived.Test.YtkbikmejpdcgnaaRRRFramePadsR
import Derived.Test.YtkbikmejpdcgnaaRRRFramePut
import Derived.Test.YtkbikmejpdcgnaaRRRFramePad
