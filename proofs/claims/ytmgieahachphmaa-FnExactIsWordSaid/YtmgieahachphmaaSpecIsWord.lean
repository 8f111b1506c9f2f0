/-
  The reference's IsWord.
-/
import Derived.Test.YtmgieahachphmaaWordS
namespace Go.Proofs.Ytmgieahachphmaa
open Go.RowKit
set_option linter.unusedVariables false

theorem specIsWord_any (s : ByteArray) (w : World) (hs : s.size ≤ 9223372036854775807) :
    Calls Try.prog 32 #[.string s] w fun e w' => e = .returned (.bool (okW s)) ∧ w = w' := by
  have c := Lib.hid (l2Word_any s w hs)
  obtain ⟨b, hb⟩ : ∃ b, okW s = b := ⟨_, rfl⟩
  rw [hb] at c ⊢
  clear hb
  go_enter Try.func32, Try.ntmps32
  go_wp2_with fail
  refine c.out.mono ?_
  rintro e w' ⟨rfl, rfl⟩
  go_wp2_with fail
  go_ret
  exact ⟨rfl, rfl⟩

end Go.Proofs.Ytmgieahachphmaa
