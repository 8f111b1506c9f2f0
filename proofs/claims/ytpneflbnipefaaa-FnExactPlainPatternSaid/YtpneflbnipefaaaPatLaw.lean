/-
  Whether a text is a pattern: the reference and the program answer the same.
-/
import Derived.Test.YtpneflbnipefaaaPat
namespace Go.Proofs.Ytpneflbnipefaaa
open Go.RowKit
set_option linter.unusedVariables false

theorem agreeIsPattern (s : ByteArray) (hs : s.size ≤ 1048576) : ∃ ok : Bool,
    (∀ W : World, Calls Try.prog 9 #[.string s] W fun e w' => e = .returned (.bool ok) ∧ Below W.heap.size W w') ∧
    (∀ W : World, Calls Try.prog 10 #[.string s] W fun e w' => e = .returned (.bool ok) ∧ Below W.heap.size W w') := by
  refine ⟨okG s, fun W => ?_, fun W => implIsPattern_any s W (by omega)⟩
  have c := Lib.hid (l6Pattern_any s W (by omega))
  obtain ⟨b, hb⟩ : ∃ b, okG s = b := ⟨_, rfl⟩
  rw [hb] at c ⊢
  clear hb
  go_enter Try.func9, Try.ntmps9
  go_wp2_with fail
  refine c.out.mono ?_
  rintro e w' ⟨rfl, rfl⟩
  go_wp2_with fail
  go_ret
  exact ⟨rfl, Below.refl _ _⟩

end Go.Proofs.Ytpneflbnipefaaa
