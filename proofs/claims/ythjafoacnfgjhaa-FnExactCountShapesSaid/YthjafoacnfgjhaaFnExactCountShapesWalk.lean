/-
  The walk of the law FnExactCountShapes: both functions answer the same.
-/
import Derived.Test.YthjafoacnfgjhaaShapes10
namespace Go.Proofs.Ythjafoacnfgjhaa.fnExactCountShapes
open Go.RowKit
set_option linter.unusedVariables false

set_option maxRecDepth 1000000 in
set_option maxHeartbeats 4000000 in
theorem walk (y0 : Int) (w : World) (h0 : (Lit.int .i64 y0).wf = true) :
    Calls Try.prog 6 #[.int .i64 y0] w fun e w' => e = .returned (.bool true) ∧ Below w.heap.size w w' := by
  obtain ⟨v0, v1, hsp, him⟩ := agreeCountShapes y0 (by simpa [Lit.wf, IntKind.min, IntKind.max, IntKind.signed, IntKind.bits] using h0)
  have cSp := Lib.hid hsp
  have cIm := Lib.hid him
  clear hsp him
  have hv0 : ((v0 : Int) != v0) = false := by simp
  have hv1 : (v1 != v1) = false := by cases v1 <;> rfl
  go_enter Try.func6, Try.ntmps6
  skip
  go_wp2_with fail
  refine (cSp.out w ).mono ?_
  rintro e w1 ⟨rfl, hb⟩
  have HB1 := Lib.hid (hb)
  clear hb
  go_wp2_with fail
  refine (cIm.out w1 ).mono ?_
  rintro e w2 ⟨rfl, hb⟩
  have HB2 := Lib.hid (HB1.out.trans (hb.mono HB1.out.size))
  clear hb
  go_wp2_with fail
  go_ret
  exact ⟨rfl, HB2.out⟩

end Go.Proofs.Ythjafoacnfgjhaa.fnExactCountShapes
