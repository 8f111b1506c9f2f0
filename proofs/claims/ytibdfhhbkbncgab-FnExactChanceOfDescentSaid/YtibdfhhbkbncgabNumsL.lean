/-
  Lists of numbers as cells.
-/
import Derived.Test.YtibdfhhbkbncgabNumsB
import Derived.Test.YtibdfhhbkbncgabKids
import Derived.Test.YtibdfhhbkbncgabWords
namespace Go.Proofs.Ytibdfhhbkbncgab
open Go.RowKit
set_option linter.unusedVariables false

end Go.Proofs.Ytibdfhhbkbncgab
