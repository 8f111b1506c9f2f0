/-
  What is a word: the program's function.
-/
import Derived.Test.YtfehfjnmkaifbabWordS
import Derived.Test.YtfehfjnmkaifbabWordA
namespace Go.Proofs.Ytfehfjnmkaifbab
open Go.RowKit
set_option linter.unusedVariables false

set_option maxRecDepth 1000000 in
set_option maxHeartbeats 1000000 in
theorem implIsWord_any (s : ByteArray) (w : World) (hs : s.size ≤ 9223372036854775807) :
    Calls Try.prog 51 #[.string s] w fun e w' => e = .returned (.bool (okW s)) ∧ Below w.heap.size w w' := by
  have cL := Lib.hid (areLetters_any s w hs)
  by_cases h12 : s.size ≤ 12
  · have HE := Lib.hid (okW_lowB h12)
    go_enter Try.func51, Try.ntmps51
    go_wp2_with (first | (go_at_call 78; refine cL.out.mono ?_; rintro e w2 ⟨rfl, hb2⟩; have HB2 := Lib.hid hb2; clear hb2))
    go_ret
    exact ⟨ret_bool HE.out.symm, HB2.out⟩
  · have HF := Lib.hid (okW_long (show 12 < s.size by omega))
    go_enter Try.func51, Try.ntmps51
    go_wp2_with fail
    go_ret
    exact ⟨ret_bool HF.out.symm, Below.refl _ _⟩

end Go.Proofs.Ytfehfjnmkaifbab
