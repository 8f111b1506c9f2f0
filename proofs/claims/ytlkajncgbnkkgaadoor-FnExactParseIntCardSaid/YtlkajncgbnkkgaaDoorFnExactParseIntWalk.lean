/-
  The walk of the law FnExactParseInt: both functions answer the same; nothing that was there is written.
-/
import Derived.Test.YtlkajncgbnkkgaaDoorReadWalk
import Derived.Test.YtlkajncgbnkkgaaDoorParImpl
namespace Go.Proofs.YtlkajncgbnkkgaaDoor.fnExactParseInt
open Go.RowKit
set_option linter.unusedVariables false

theorem walk (s : ByteArray) (w : World) (w0 : s.size ≤ maxLen) (hL : laidMetH Tryd.prog Rows.fnExactParseIntRow.laid w) :
    Calls Tryd.prog 5 #[.string s] w fun e w' => e = .returned (.bool true) ∧ Below w.heap.size w w' := by
  have htab := Lib.hid (pow10_of (laidMet_tail (laidMet_tail (show laidMet Tryd.prog Rows.fnExactParseIntRow.laid w from hL))))
  have hE := Lib.hid (errs_of (laidMet_tail (laidMet_tail (laidMet_tail (show laidMet Tryd.prog Rows.fnExactParseIntRow.laid w from hL)))))
  clear hL
  unfold maxLen at w0
  by_cases hb : 1048576 < s.size
  · go_enter Tryd.func5, Tryd.ntmps5
    go_wp2_with fail
    go_ret
    exact ⟨rfl, Below.refl _ _⟩
  · have hs : s.size ≤ 1048576 := by omega
    obtain ⟨J, hJ⟩ : ∃ J, parN s = J := ⟨_, rfl⟩
    obtain ⟨F, hF⟩ : ∃ F, parB s = F := ⟨_, rfl⟩
    have c1 := Lib.hid (fun w => specPar_any s w hs)
    have c2 := Lib.hid (fun w h h' => implPar_any s w hs h h')
    rw [hJ, hF] at c1 c2
    clear hJ hF
    have hbb : (F != F) = false := by cases F <;> rfl
    have hss : ((J : Int) != J) = false := by simp
    go_enter Tryd.func5, Tryd.ntmps5
    go_wp2_with fail
    refine (c1.out _).mono ?_
    rintro e w1 ⟨rfl, q, rfl⟩
    have hb1 : Below w.heap.size w (w.drewN q) := below_drewN (Below.refl _ _) q
    go_wp2_with fail
    refine (c2.out _ (pow10_stays htab.out hb1) (Errs.keep ⟨hE.out.1, hE.out.2⟩ hb1)).mono ?_
    rintro e w2 ⟨rfl, hb2⟩
    have hbw : Below w.heap.size w w2 := hb1.trans (hb2.mono hb1.size)
    go_wp2_with fail
    go_ret
    exact ⟨rfl, hbw⟩

end Go.Proofs.YtlkajncgbnkkgaaDoor.fnExactParseInt
