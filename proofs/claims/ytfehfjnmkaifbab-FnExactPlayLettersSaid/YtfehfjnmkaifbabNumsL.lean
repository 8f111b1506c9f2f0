/-
  Lists of numbers as cells.
-/
import Derived.Test.YtfehfjnmkaifbabNumsB
import Derived.Test.YtfehfjnmkaifbabKids
import Derived.Test.YtfehfjnmkaifbabWords
namespace Go.Proofs.Ytfehfjnmkaifbab
open Go.RowKit
set_option linter.unusedVariables false

end Go.Proofs.Ytfehfjnmkaifbab
