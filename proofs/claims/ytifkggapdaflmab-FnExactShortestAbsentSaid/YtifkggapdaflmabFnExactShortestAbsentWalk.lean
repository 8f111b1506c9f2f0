/-
  The walk of the law FnExactShortestAbsent: both functions answer the same.
-/
import Derived.Test.YtifkggapdaflmabAbsentS
namespace Go.Proofs.Ytifkggapdaflmab.fnExactShortestAbsent
open Go.RowKit
set_option linter.unusedVariables false

theorem wf64 {z : Int} (h : (Lit.int .i64 z).wf = true) : -9223372036854775808 ≤ z ∧ z ≤ 9223372036854775807 := by
  have h' : (decide (IntKind.i64.min ≤ z) && decide (z ≤ IntKind.i64.max)) = true := h
  rw [Bool.and_eq_true, decide_eq_true_eq, decide_eq_true_eq] at h'
  exact h'

set_option maxRecDepth 1000000 in
set_option maxHeartbeats 1000000 in
theorem walk (s0 : ByteArray) (z1 : Int) (w : World) (w0 : s0.size ≤ maxLen) (q1 : (Lit.int .i64 z1).wf = true) (mx : Int) (hmx : w.cell? ⟨0, 0, none⟩ = some (.int .i64 mx)) :
    Calls Try.prog 5 #[.string s0, .int .i64 z1] w fun e w' => e = .returned (.bool true) ∧ Below w.heap.size w w' := by
  unfold maxLen at w0
  by_cases hb0 : 1048576 < s0.size
  · go_enter Try.func5, Try.ntmps5
    go_wp2_with fail
    go_ret
    exact ⟨rfl, Below.refl _ _⟩
  obtain ⟨v, ok, hsp, him⟩ := agreeShortestAbsent s0 z1 (by omega) (wf64 q1)
  have HMx : Hid (∀ W, Below w.heap.size w W → W.cell? ⟨0, 0, none⟩ = some (.int .i64 mx)) := Lib.hid (fun W hb => (hb.cell (p := ⟨0, 0, none⟩) (World.block_lt_of_cell? w _ hmx)).trans hmx)
  clear hmx
  have cSp := Lib.hid hsp
  have cIm := Lib.hid him
  clear hsp him
  have hvv : (v.toList == v.toList) = true := by simp
  have hvw : (v.toList != v.toList) = false := by simp
  have hrr : (ok != ok) = false := by cases ok <;> rfl
  go_enter Try.func5, Try.ntmps5
  go_wp2_with fail
  refine (cSp.out _).mono ?_
  rintro e w1 ⟨rfl, hb1⟩
  have H1 := Lib.hid hb1
  clear hb1
  go_wp2_with fail
  refine (cIm.out _ mx (HMx.out _ H1.out)).mono ?_
  rintro e w2 ⟨rfl, hb2⟩
  have H2 := Lib.hid (H1.out.trans (hb2.mono H1.out.size))
  clear hb2
  go_wp2_with fail
  go_ret
  exact ⟨rfl, H2.out⟩

end Go.Proofs.Ytifkggapdaflmab.fnExactShortestAbsent
