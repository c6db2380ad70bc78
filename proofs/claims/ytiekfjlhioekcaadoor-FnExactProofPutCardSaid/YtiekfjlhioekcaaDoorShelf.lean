/-
  Nothing of the library's comparison is reached here.
-/
import Derived.Test.YtiekfjlhioekcaaDoorProg
