/-
  LongestCommon of two texts: the reference and the program answer the same.
-/
import Derived.Test.YtpneflbnipefaaaLcsI
import Derived.Test.YtpneflbnipefaaaLcsS
namespace Go.Proofs.Ytpneflbnipefaaa
open Go.RowKit
set_option linter.unusedVariables false

set_option maxRecDepth 1000000 in
set_option maxHeartbeats 1000000 in
theorem agreeLongestCommon (a b : ByteArray) (ha : a.size ≤ 1048576) (hb : b.size ≤ 1048576) : ∃ (v : Int) (ok : Bool),
    (∀ W : World, Calls Try.prog 19 #[.string a, .string b] W fun e w' => e = .returned (.tuple #[.int .i64 v, .bool ok]) ∧ Below W.heap.size W w') ∧
    (∀ W : World, Calls Try.prog 20 #[.string a, .string b] W fun e w' => e = .returned (.tuple #[.int .i64 v, .bool ok]) ∧ Below W.heap.size W w') := by
  have cA := Lib.hid (fun W => areWords_any a b W (by omega) (by omega))
  have c1 := Lib.hid (fun W => l2Word_any a W (by omega))
  have c2 := Lib.hid (fun W => l2Word_any b W (by omega))
  cases hwa : okW a
  · rw [hwa] at cA c1
    simp only [Bool.false_and] at cA
    refine ⟨0, false, fun W => ?_, fun W => ?_⟩
    · go_enter Try.func19, Try.ntmps19
      go_wp2_with fail
      refine (c1.out _).mono ?_
      rintro e w1 ⟨rfl, rfl⟩
      go_wp2_with fail
      go_ret2
      exact ⟨rfl, Below.refl _ _⟩
    · go_enter Try.func20, Try.ntmps20
      go_wp2_with fail
      refine (cA.out _).mono ?_
      rintro e w1 ⟨rfl, hb1⟩
      have H1 := Lib.hid hb1
      clear hb1
      go_wp2_with fail
      go_ret2
      exact ⟨rfl, H1.out⟩
  cases hwb : okW b
  · rw [hwa, hwb] at cA
    rw [hwa] at c1
    rw [hwb] at c2
    simp only [Bool.true_and] at cA
    refine ⟨0, false, fun W => ?_, fun W => ?_⟩
    · go_enter Try.func19, Try.ntmps19
      go_wp2_with fail
      refine (c1.out _).mono ?_
      rintro e w1 ⟨rfl, rfl⟩
      go_wp2_with fail
      refine (c2.out _).mono ?_
      rintro e w1 ⟨rfl, rfl⟩
      go_wp2_with fail
      go_ret2
      exact ⟨rfl, Below.refl _ _⟩
    · go_enter Try.func20, Try.ntmps20
      go_wp2_with fail
      refine (cA.out _).mono ?_
      rintro e w1 ⟨rfl, hb1⟩
      have H1 := Lib.hid hb1
      clear hb1
      go_wp2_with fail
      go_ret2
      exact ⟨rfl, H1.out⟩
  exact ⟨_, true, fun W => specLcs_yes a b W hwa hwb, fun W => implLcs_yes a b W hwa hwb⟩

end Go.Proofs.Ytpneflbnipefaaa
