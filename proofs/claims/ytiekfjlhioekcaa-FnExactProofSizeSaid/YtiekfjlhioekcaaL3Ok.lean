/-
  Facts that are ok, in the model. (Written by tools/l3ok.py.)
-/
import Derived.Test.YtiekfjlhioekcaaFactSpec
import Derived.Test.YtiekfjlhioekcaaRegion
namespace Go.Proofs.Ytiekfjlhioekcaa
open Go.RowKit



end Go.Proofs.Ytiekfjlhioekcaa
