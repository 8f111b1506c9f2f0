/-
  Lists of numbers as cells.
-/
import Derived.Test.YtfehfjnmkaifbaaNumsB
import Derived.Test.YtfehfjnmkaifbaaKids
import Derived.Test.YtfehfjnmkaifbaaWords
namespace Go.Proofs.Ytfehfjnmkaifbaa
open Go.RowKit
set_option linter.unusedVariables false

end Go.Proofs.Ytfehfjnmkaifbaa
