/-
  IsText: both functions answer the same.
-/
import Derived.Test.YtifkggapdaflmaaText8
namespace Go.Proofs.Ytifkggapdaflmaa
open Go.RowKit
set_option linter.unusedVariables false

set_option maxRecDepth 1000000 in
theorem agreeIsText (s : ByteArray) (hs : s.size ≤ 1048576) : ∃ ok : Bool,
    (∀ W : World, Calls Try.prog 10 #[.string s] W fun e w' => e = .returned (.bool ok) ∧ Below W.heap.size W w') ∧
    (∀ W : World, Calls Try.prog 11 #[.string s] W fun e w' => e = .returned (.bool ok) ∧ Below W.heap.size W w') := by
  refine ⟨okT s, fun W => ?_, fun W => implIsText_any s W (by omega)⟩
  have c := Lib.hid (l8Text_any s W (by omega))
  obtain ⟨b, hb⟩ : ∃ b, okT s = b := ⟨_, rfl⟩
  rw [hb] at c ⊢
  clear hb
  go_enter Try.func10, Try.ntmps10
  go_wp2_with fail
  refine c.out.mono ?_
  rintro e w' ⟨rfl, rfl⟩
  go_wp2_with fail
  go_ret
  exact ⟨rfl, Below.refl _ _⟩

end Go.Proofs.Ytifkggapdaflmaa
