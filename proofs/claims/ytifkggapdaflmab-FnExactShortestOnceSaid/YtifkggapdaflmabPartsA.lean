/-
  What the walk of the program's partsWhere needs.
-/
import Derived.Test.YtifkggapdaflmabSortS
namespace Go.Proofs.Ytifkggapdaflmab
end Go.Proofs.Ytifkggapdaflmab
