/-
  The walk of the law FnExactChecksum: both functions answer the same; nothing is written.
-/
import Derived.Test.YtlkajncgbnkkgabRows
import Derived.Test.YtlkajncgbnkkgabCkWalks
import Derived.WalkKit
namespace Go.Proofs.Ytlkajncgbnkkgab.fnExactChecksum
open Go.RowKit
set_option linter.unusedVariables false

theorem walk (s : ByteArray) (w : World) (hs : s.size ≤ maxLen) :
    Calls Try.prog 4 #[.string s] w fun e w' => e = .returned (.bool true) ∧ Below w.heap.size w w' := by
  have hS := hs
  unfold maxLen at hs
  by_cases hb : 1048576 < s.size
  · go_enter Try.func4, Try.ntmps4
    go_wp2
    go_ret
    exact ⟨rfl, Below.refl _ _⟩
  · by_cases h : 4000 < s.size
    · go_enter Try.func4, Try.ntmps4
      go_wp2_with (first | (go_at_call 7; refine (ck.spec_no _ _ hS h).mono ?_; rintro e w' ⟨rfl, rfl⟩) | (go_at_call 8; refine (ck.impl_no _ _ hS h).mono ?_; rintro e w' ⟨rfl, rfl⟩))
      go_ret
      exact ⟨rfl, Below.refl _ _⟩
    · have h' : s.size ≤ 4000 := by omega
      go_enter Try.func4, Try.ntmps4
      go_wp2_with (first | (go_at_call 7; refine (ck.spec_yes _ _ hS h').mono ?_; rintro e w' ⟨rfl, rfl⟩) | (go_at_call 8; refine (ck.impl_yes _ _ hS h').mono ?_; rintro e w' ⟨rfl, rfl⟩))
      go_ret
      exact ⟨rfl, Below.refl _ _⟩

end Go.Proofs.Ytlkajncgbnkkgab.fnExactChecksum
