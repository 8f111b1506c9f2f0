/-
  What the walk of the program's partsWhere needs.
-/
import Derived.Test.YtifkggapdaflmaaSortS
namespace Go.Proofs.Ytifkggapdaflmaa
end Go.Proofs.Ytifkggapdaflmaa
