/-
  The type int as the program numbers it.
-/
import Derived.Test.YtfehfjnmkaifbabOwn
namespace Go.Proofs.Ytfehfjnmkaifbab
open Go.RowKit
set_option linter.unusedVariables false

theorem infoI : (Try.prog.info? 3).map (fun i => (i.zero, i.size, i.bytes)) = some (some (.int .i64 0), 1, 8) := by kernel_rfl

/-- numbers as cells -/
def nums (l : List Nat) : List Value := l.map (fun (j : Nat) => Value.int .i64 (j : Int))

end Go.Proofs.Ytfehfjnmkaifbab
