/-
  The walk of the law FnExactAppendChecksum: both functions answer the same; nothing that was there is written.
-/
import Derived.Test.YtlkajncgbnkkgabDoorApp
namespace Go.Proofs.YtlkajncgbnkkgabDoor.fnExactAppendChecksum
open Go.RowKit
set_option linter.unusedVariables false

theorem walk (s : ByteArray) (w : World) (w0 : s.size ≤ maxLen) (hL : laidMetH Tryd.prog Rows.fnExactAppendChecksumRow.laid w) :
    Calls Tryd.prog 3 #[.string s] w fun e w' => e = .returned (.bool true) ∧ Below w.heap.size w w' := by
  have htab := Lib.hid (pow10_of (laidMet_tail (laidMet_tail (show laidMet Tryd.prog Rows.fnExactAppendChecksumRow.laid w from hL))))
  clear hL
  unfold maxLen at w0
  by_cases hb : 1048576 < s.size
  · go_enter Tryd.func3, Tryd.ntmps3
    go_wp2_with fail
    go_ret
    exact ⟨rfl, Below.refl _ _⟩
  · have hs : s.size ≤ 1048576 := by omega
    obtain ⟨J, hJ⟩ : ∃ J, appS s = J := ⟨_, rfl⟩
    obtain ⟨F, hF⟩ : ∃ F, appB s = F := ⟨_, rfl⟩
    have c1 := Lib.hid (fun w => specApp_any s w hs)
    have c2 := Lib.hid (fun w h => implApp_any s w hs h)
    rw [hJ, hF] at c1 c2
    clear hJ hF
    have hbb : (F != F) = false := by cases F <;> rfl
    have hss : (J.toList != J.toList) = false := by simp
    go_enter Tryd.func3, Tryd.ntmps3
    go_wp2_with fail
    refine (c1.out _).mono ?_
    rintro e w1 ⟨rfl, q, rfl⟩
    go_wp2_with fail
    refine (c2.out (w.drewN q) (pow10_stays htab.out (below_drewN (Below.refl _ _) q))).mono ?_
    rintro e w2 ⟨rfl, hb2⟩
    have hbw : Below w.heap.size w w2 := (below_drewN (Below.refl _ _) q).trans hb2
    go_wp2_with fail
    go_ret
    exact ⟨rfl, hbw⟩

end Go.Proofs.YtlkajncgbnkkgabDoor.fnExactAppendChecksum
