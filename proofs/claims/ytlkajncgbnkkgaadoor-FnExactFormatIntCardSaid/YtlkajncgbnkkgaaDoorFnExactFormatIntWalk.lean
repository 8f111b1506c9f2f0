/-
  The walk of the law FnExactFormatInt: both functions answer the same; nothing that was there is written.
-/
import Derived.Test.YtlkajncgbnkkgaaDoorFmt
import Derived.Test.YtlkajncgbnkkgaaDoorLaidTabs
namespace Go.Proofs.YtlkajncgbnkkgaaDoor.fnExactFormatInt
open Go.RowKit
set_option linter.unusedVariables false

theorem walk (n : Int) (w : World) (w0 : (Lit.int .i64 n).wf = true) (hL : laidMetH Tryd.prog Rows.fnExactFormatIntRow.laid w) :
    Calls Tryd.prog 4 #[.int .i64 n] w fun e w' => e = .returned (.bool true) ∧ Below w.heap.size w w' := by
  have htab := Lib.hid (pow10_of (laidMet_tail (laidMet_tail (show laidMet Tryd.prog Rows.fnExactFormatIntRow.laid w from hL))))
  clear hL w0
  have hbb : (fmtB n != fmtB n) = false := by cases fmtB n <;> rfl
  have hss : ((fmtS n).toList != (fmtS n).toList) = false := by simp
  go_enter Tryd.func4, Tryd.ntmps4
  go_wp2_with fail
  refine (specFmt_any n w).mono ?_
  rintro e w1 ⟨rfl, q, rfl⟩
  go_wp2_with fail
  refine (implFmt_any n (w.drewN q) (pow10_stays htab.out (below_drewN (Below.refl _ _) q))).mono ?_
  rintro e w2 ⟨rfl, hb2⟩
  have hb : Below w.heap.size w w2 := (below_drewN (Below.refl _ _) q).trans hb2
  go_wp2_with fail
  go_ret
  exact ⟨rfl, hb⟩

end Go.Proofs.YtlkajncgbnkkgaaDoor.fnExactFormatInt
