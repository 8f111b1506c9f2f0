/-
  What the walk of the program's partsWhere needs.
-/
import Derived.Test.YtmgieahachphmaaSortS
namespace Go.Proofs.Ytmgieahachphmaa
end Go.Proofs.Ytmgieahachphmaa
