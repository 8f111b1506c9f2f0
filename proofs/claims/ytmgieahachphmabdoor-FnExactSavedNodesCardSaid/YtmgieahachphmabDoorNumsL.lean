/-
  Lists of numbers as cells.
-/
import Derived.Test.YtmgieahachphmabDoorNumsB
import Derived.Test.YtmgieahachphmabDoorKids
import Derived.Test.YtmgieahachphmabDoorWords
namespace Go.Proofs.YtmgieahachphmabDoor
open Go.RowKit
set_option linter.unusedVariables false

end Go.Proofs.YtmgieahachphmabDoor
