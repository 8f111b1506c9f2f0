/-
  The walk of the law FnExactLessString: both functions answer the same; nothing is written.
-/
import Derived.Test.YtlkajncgbnkkgabRows
import Derived.WalkKit
namespace Go.Proofs.Ytlkajncgbnkkgab.fnExactLessString
open Go.RowKit
set_option linter.unusedVariables false

theorem walk (a0 a1 : ByteArray) (w : World) (w0 : a0.size ≤ maxLen) (w1 : a1.size ≤ maxLen) :
    Calls Try.prog 3 #[.string a0, .string a1] w fun e w' => e = .returned (.bool true) ∧ Below w.heap.size w w' := by
  unfold maxLen at w0 w1
  go_enter Try.func3, Try.ntmps3
  go_wp2
  all_goals go_ret
  all_goals exact ⟨rfl, Below.refl _ _⟩

end Go.Proofs.Ytlkajncgbnkkgab.fnExactLessString
