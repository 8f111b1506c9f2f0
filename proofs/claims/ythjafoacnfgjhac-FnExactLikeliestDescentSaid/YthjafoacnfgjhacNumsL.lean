/-
  Lists of numbers as cells.
-/
import Derived.Test.YthjafoacnfgjhacNumsB
import Derived.Test.YthjafoacnfgjhacKids
import Derived.Test.YthjafoacnfgjhacWords
namespace Go.Proofs.Ythjafoacnfgjhac
open Go.RowKit
set_option linter.unusedVariables false

end Go.Proofs.Ythjafoacnfgjhac
