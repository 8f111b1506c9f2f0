/-
  The walk of the law FnExactArePossible: both functions answer the same.
-/
import Derived.Test.YthjafoacnfgjhaaArePos10
import Derived.Test.YthjafoacnfgjhaaInts
namespace Go.Proofs.Ythjafoacnfgjhaa.fnExactArePossible
open Go.RowKit
set_option linter.unusedVariables false

set_option maxRecDepth 1000000 in
set_option maxHeartbeats 4000000 in
theorem walk (a0 : Option Addr) (n0 c0 : Nat) (z0 : List Int) (w : World) (h0 : IsInts w a0 n0 c0 z0) :
    Calls Try.prog 5 #[.slice a0 n0 c0] w fun e w' => e = .returned (.bool true) ∧ Below w.heap.size w w' := by
  obtain ⟨l0, hl0⟩ : ∃ l, l = z0.take n0 := ⟨_, rfl⟩
  have S0 := Lib.hid (show Ints w.heap.size w a0 n0 c0 l0 from hl0 ▸ h0.ints)
  clear hl0 h0
  by_cases hb0 : 1048576 < n0
  · go_enter Try.func5, Try.ntmps5
    go_wp2_with fail
    go_ret
    exact ⟨rfl, Below.refl _ _⟩
  obtain ⟨v0, v1, hsp, him⟩ := agreeArePossible l0 (by have := S0.out.len; omega)
  have cSp := Lib.hid hsp
  have cIm := Lib.hid him
  clear hsp him
  have hv0 : (v0 != v0) = false := by cases v0 <;> rfl
  have hv1 : (v1 != v1) = false := by cases v1 <;> rfl
  go_enter Try.func5, Try.ntmps5
  skip
  go_wp2_with fail
  refine (toIntS_any w.heap.size a0 n0 c0 l0 w (Nat.le_refl _) S0.out (by omega)).mono ?_
  rintro e w1 ⟨rfl, hst, hsz, hb⟩
  have HB1 := Lib.hid (hb)
  have A0_1 := Lib.hid (hst.mono (show w.heap.size + 1 ≤ w1.heap.size from hsz))
  clear hst hsz hb
  go_wp2_with fail
  refine (cSp.out w1 _ _ _ A0_1.out).mono ?_
  rintro e w2 ⟨rfl, hb⟩
  have HB2 := Lib.hid (HB1.out.trans (hb.mono HB1.out.size))
  have A0_2 := Lib.hid ((A0_1.out.keep hb).mono hb.size)
  clear hb
  go_wp2_with fail
  refine (toIntS_any w2.heap.size a0 n0 c0 l0 w2 (Nat.le_refl _) ((S0.out.keep HB2.out).mono HB2.out.size) (by omega)).mono ?_
  rintro e w3 ⟨rfl, hst, hsz, hb⟩
  have HB3 := Lib.hid (HB2.out.trans (hb.mono HB2.out.size))
  have A0_3 := Lib.hid ((A0_2.out.keep hb).mono hb.size)
  have X0_3 := Lib.hid (hst.mono (show w2.heap.size + 1 ≤ w3.heap.size from hsz))
  clear hst hsz hb
  go_wp2_with fail
  refine (cIm.out w3 _ _ _ X0_3.out).mono ?_
  rintro e w4 ⟨rfl, hb⟩
  have HB4 := Lib.hid (HB3.out.trans (hb.mono HB3.out.size))
  have A0_4 := Lib.hid ((A0_3.out.keep hb).mono hb.size)
  have X0_4 := Lib.hid ((X0_3.out.keep hb).mono hb.size)
  clear hb
  go_wp2_with fail
  refine (toIntS_any w4.heap.size a0 n0 c0 l0 w4 (Nat.le_refl _) ((S0.out.keep HB4.out).mono HB4.out.size) (by omega)).mono ?_
  rintro e w5 ⟨rfl, hst, hsz, hb⟩
  have HB5 := Lib.hid (HB4.out.trans (hb.mono HB4.out.size))
  have A0_5 := Lib.hid ((A0_4.out.keep hb).mono hb.size)
  have X0_5 := Lib.hid ((X0_4.out.keep hb).mono hb.size)
  have Y0_5 := Lib.hid (hst.mono (show w4.heap.size + 1 ≤ w5.heap.size from hsz))
  clear hst hsz hb
  go_wp2_with fail
  refine (eqIntZ_same w5.heap.size _ _ n0 n0 n0 l0 w5 (Nat.le_refl _) X0_5.out.sl Y0_5.out.sl).mono ?_
  rintro e w6 ⟨rfl, hb⟩
  have HB6 := Lib.hid (HB5.out.trans (hb.mono HB5.out.size))
  have A0_6 := Lib.hid ((A0_5.out.keep hb).mono hb.size)
  have X0_6 := Lib.hid ((X0_5.out.keep hb).mono hb.size)
  have Y0_6 := Lib.hid ((Y0_5.out.keep hb).mono hb.size)
  clear hb
  go_wp2_with fail
  go_ret
  exact ⟨rfl, HB6.out⟩

end Go.Proofs.Ythjafoacnfgjhaa.fnExactArePossible
