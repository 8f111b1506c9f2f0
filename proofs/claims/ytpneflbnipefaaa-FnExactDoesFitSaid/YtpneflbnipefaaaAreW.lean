/-
  Whether two texts are words: the program's function.
-/
import Derived.Test.YtpneflbnipefaaaPat
namespace Go.Proofs.Ytpneflbnipefaaa
open Go.RowKit
set_option linter.unusedVariables false

set_option maxHeartbeats 1000000 in
theorem areWords_any (a b : ByteArray) (w : World) (ha : a.size ≤ 9223372036854775807) (hb : b.size ≤ 9223372036854775807) :
    Calls Try.prog 29 #[.string a, .string b] w fun e w' => e = .returned (.bool (okW a && okW b)) ∧ Below w.heap.size w w' := by
  have c1 := Lib.hid (fun W => implIsWord_any a W ha)
  have c2 := Lib.hid (fun W => implIsWord_any b W hb)
  obtain ⟨x, hx⟩ : ∃ x, okW a = x := ⟨_, rfl⟩
  obtain ⟨y, hy⟩ : ∃ y, okW b = y := ⟨_, rfl⟩
  rw [hx] at c1 ⊢
  rw [hy] at c2 ⊢
  clear hx hy
  cases x
  · go_enter Try.func29, Try.ntmps29
    go_wp2_with fail
    refine (c1.out _).mono ?_
    rintro e w1 ⟨rfl, hb1⟩
    have H1 := Lib.hid hb1
    clear hb1
    go_wp2_with fail
    go_ret
    exact ⟨ret_bool (by simp), H1.out⟩
  · cases y
    all_goals
      go_enter Try.func29, Try.ntmps29
      go_wp2_with fail
      refine (c1.out _).mono ?_
      rintro e w1 ⟨rfl, hb1⟩
      have H1 := Lib.hid hb1
      clear hb1
      go_wp2_with fail
      refine (c2.out _).mono ?_
      rintro e w2 ⟨rfl, hb2⟩
      have H2 := Lib.hid (H1.out.trans (hb2.mono H1.out.size))
      clear hb2
      go_wp2_with fail
      go_ret
      exact ⟨ret_bool (by simp), H2.out⟩

end Go.Proofs.Ytpneflbnipefaaa
