/-
  The walk of the law FnExactCommonSubstring: both functions answer the same.
-/
import Derived.Test.YtifkggapdaflmabCommon8
namespace Go.Proofs.Ytifkggapdaflmab.fnExactCommonSubstring
open Go.RowKit
set_option linter.unusedVariables false

set_option maxRecDepth 1000000 in
set_option maxHeartbeats 1000000 in
theorem walk (s0 : ByteArray) (s1 : ByteArray) (w : World) (w0 : s0.size ≤ maxLen) (w1 : s1.size ≤ maxLen) (mx : Int) (hmx : w.cell? ⟨0, 0, none⟩ = some (.int .i64 mx)) :
    Calls Try.prog 6 #[.string s0, .string s1] w fun e w' => e = .returned (.bool true) ∧ Below w.heap.size w w' := by
  unfold maxLen at w0 w1
  by_cases hb0 : 1048576 < s0.size
  · go_enter Try.func6, Try.ntmps6
    go_wp2_with fail
    go_ret
    exact ⟨rfl, Below.refl _ _⟩
  by_cases hb1 : 1048576 < s1.size
  · go_enter Try.func6, Try.ntmps6
    go_wp2_with fail
    go_ret
    exact ⟨rfl, Below.refl _ _⟩
  obtain ⟨v, ok, hsp, him⟩ := agreeCommonSubstring s0 s1 (by omega) (by omega)
  have HMx : Hid (∀ W, Below w.heap.size w W → W.cell? ⟨0, 0, none⟩ = some (.int .i64 mx)) := Lib.hid (fun W hb => (hb.cell (p := ⟨0, 0, none⟩) (World.block_lt_of_cell? w _ hmx)).trans hmx)
  clear hmx
  have cSp := Lib.hid hsp
  have cIm := Lib.hid him
  clear hsp him
  have hvv : (v.toList == v.toList) = true := by simp
  have hvw : (v.toList != v.toList) = false := by simp
  have hrr : (ok != ok) = false := by cases ok <;> rfl
  go_enter Try.func6, Try.ntmps6
  go_wp2_with fail
  refine (cSp.out _).mono ?_
  rintro e w1 ⟨rfl, hb1⟩
  have H1 := Lib.hid hb1
  clear hb1
  go_wp2_with fail
  refine (cIm.out _ mx (HMx.out _ H1.out)).mono ?_
  rintro e w2 ⟨rfl, hb2⟩
  have H2 := Lib.hid (H1.out.trans (hb2.mono H1.out.size))
  clear hb2
  go_wp2_with fail
  go_ret
  exact ⟨rfl, H2.out⟩

end Go.Proofs.Ytifkggapdaflmab.fnExactCommonSubstring
