/-
  The walk of the law FnExactShortestOnce: both functions answer the same.
-/
import Derived.Test.YtifkggapdaflmabShort8
namespace Go.Proofs.Ytifkggapdaflmab.fnExactShortestOnce
open Go.RowKit
set_option linter.unusedVariables false

set_option maxRecDepth 1000000 in
set_option maxHeartbeats 1000000 in
theorem walk (s0 : ByteArray) (w : World) (w0 : s0.size ≤ maxLen) :
    Calls Try.prog 4 #[.string s0] w fun e w' => e = .returned (.bool true) ∧ Below w.heap.size w w' := by
  unfold maxLen at w0
  by_cases hb0 : 1048576 < s0.size
  · go_enter Try.func4, Try.ntmps4
    go_wp2_with fail
    go_ret
    exact ⟨rfl, Below.refl _ _⟩
  obtain ⟨v, ok, hsp, him⟩ := agreeShortestOnce s0 (by omega)
  have cSp := Lib.hid hsp
  have cIm := Lib.hid him
  clear hsp him
  have hvv : (v.toList == v.toList) = true := by simp
  have hvw : (v.toList != v.toList) = false := by simp
  have hrr : (ok != ok) = false := by cases ok <;> rfl
  go_enter Try.func4, Try.ntmps4
  go_wp2_with fail
  refine (cSp.out _).mono ?_
  rintro e w1 ⟨rfl, hb1⟩
  have H1 := Lib.hid hb1
  clear hb1
  go_wp2_with fail
  refine (cIm.out _).mono ?_
  rintro e w2 ⟨rfl, hb2⟩
  have H2 := Lib.hid (H1.out.trans (hb2.mono H1.out.size))
  clear hb2
  go_wp2_with fail
  go_ret
  exact ⟨rfl, H2.out⟩

end Go.Proofs.Ytifkggapdaflmab.fnExactShortestOnce
