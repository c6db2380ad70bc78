/-
  Facts that are ok, in the model. (Written by tools/l3ok.py.)
-/
import Derived.Test.YtiekfjlhioekcaaDoorFactSpec
import Derived.Test.YtiekfjlhioekcaaDoorRegion
namespace Go.Proofs.YtiekfjlhioekcaaDoor
open Go.RowKit



end Go.Proofs.YtiekfjlhioekcaaDoor
