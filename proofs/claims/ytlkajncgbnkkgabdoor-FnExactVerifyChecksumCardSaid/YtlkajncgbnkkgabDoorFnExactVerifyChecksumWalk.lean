/-
  The walk of the law FnExactVerifyChecksum: both functions answer the same; nothing that was there is written.
-/
import Derived.Test.YtlkajncgbnkkgabDoorVer
namespace Go.Proofs.YtlkajncgbnkkgabDoor.fnExactVerifyChecksum
open Go.RowKit
set_option linter.unusedVariables false

theorem walk (s : ByteArray) (w : World) (w0 : s.size ≤ maxLen) (hL : laidMetH Tryd.prog Rows.fnExactVerifyChecksumRow.laid w) (hsh : w.ShapedOpen Tryd.prog) :
    Calls Tryd.prog 4 #[.string s] w fun e w' => e = .returned (.bool true) ∧ Below w.heap.size w w' := by
  have htab := Lib.hid (pow10_of (laidMet_tail (laidMet_tail (show laidMet Tryd.prog Rows.fnExactVerifyChecksumRow.laid w from hL))))
  obtain ⟨m, hm⟩ : ∃ m, w.cell? ⟨0, 0, none⟩ = some (.int .i64 m) := Tryd.laysM145.s1_3 w hsh
  have hm0 := World.block_lt_of_cell? w _ hm
  have HM := Lib.hid hm
  have hm1 : 0 < w.heap.size := hm0
  clear hL hsh hm hm0
  unfold maxLen at w0
  by_cases hb : 1048576 < s.size
  · go_enter Tryd.func4, Tryd.ntmps4
    go_wp2_with fail
    go_ret
    exact ⟨rfl, Below.refl _ _⟩
  · have hs : s.size ≤ 1048576 := by omega
    obtain ⟨J, hJ⟩ : ∃ J, verS s = J := ⟨_, rfl⟩
    obtain ⟨F, hF⟩ : ∃ F, verB s = F := ⟨_, rfl⟩
    have c1 := Lib.hid (fun w => specVer_any s w hs)
    have c2 := Lib.hid (fun w h h' => implVer_any s m w hs h h')
    rw [hJ, hF] at c1 c2
    clear hJ hF
    have hbb : (F != F) = false := by cases F <;> rfl
    have hss : (J.toList != J.toList) = false := by simp
    go_enter Tryd.func4, Tryd.ntmps4
    go_wp2_with fail
    refine (c1.out _).mono ?_
    rintro e w1 ⟨rfl, hb1⟩
    go_wp2_with fail
    refine (c2.out w1 (pow10_stays htab.out hb1) ((hb1.cell (p := ⟨0, 0, none⟩) hm1).trans HM.out)).mono ?_
    rintro e w2 ⟨rfl, hb2⟩
    have hbw : Below w.heap.size w w2 := hb1.trans (hb2.mono hb1.size)
    go_wp2_with fail
    go_ret
    exact ⟨rfl, hbw⟩

end Go.Proofs.YtlkajncgbnkkgabDoor.fnExactVerifyChecksum
