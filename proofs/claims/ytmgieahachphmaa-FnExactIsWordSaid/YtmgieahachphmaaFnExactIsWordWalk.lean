/-
  The walk of the law FnExactIsWord: both functions answer the same.
-/
import Derived.Test.YtmgieahachphmaaWord
import Derived.Test.YtmgieahachphmaaSpecIsWord
namespace Go.Proofs.Ytmgieahachphmaa.fnExactIsWord
open Go.RowKit
set_option linter.unusedVariables false

theorem walk (s : ByteArray) (w : World) (w0 : s.size ≤ maxLen) :
    Calls Try.prog 9 #[.string s] w fun e w' => e = .returned (.bool true) ∧ Below w.heap.size w w' := by
  unfold maxLen at w0
  by_cases hb : 1048576 < s.size
  · go_enter Try.func9, Try.ntmps9
    go_wp2_with fail
    go_ret
    exact ⟨rfl, Below.refl _ _⟩
  · have c1 := Lib.hid (fun w => specIsWord_any s w (by omega))
    have c2 := Lib.hid (fun w => implIsWord_any s w (by omega))
    obtain ⟨b, hb⟩ : ∃ b, okW s = b := ⟨_, rfl⟩
    rw [hb] at c1 c2
    clear hb
    have hbb : (b != b) = false := by cases b <;> rfl
    go_enter Try.func9, Try.ntmps9
    go_wp2_with fail
    refine (c1.out _).mono ?_
    rintro e w' ⟨rfl, rfl⟩
    go_wp2_with fail
    refine (c2.out _).mono ?_
    rintro e w' ⟨rfl, hb⟩
    go_wp2_with fail
    go_ret
    exact ⟨rfl, hb⟩

end Go.Proofs.Ytmgieahachphmaa.fnExactIsWord
