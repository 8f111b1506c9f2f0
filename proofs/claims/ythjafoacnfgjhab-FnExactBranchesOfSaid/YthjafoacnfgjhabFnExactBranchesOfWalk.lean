/-
  The walk of the law FnExactBranchesOf: both functions answer the same.
-/
import Derived.Test.YthjafoacnfgjhabBranI10
import Derived.Test.YthjafoacnfgjhabStrsWalks
namespace Go.Proofs.Ythjafoacnfgjhab.fnExactBranchesOf
open Go.RowKit
set_option linter.unusedVariables false

theorem le_sum : ∀ (zs : List ByteArray) (s : ByteArray), s ∈ zs → s.size ≤ (zs.map (·.size)).sum
  | [], s, h => by simp at h
  | z :: r, s, h => by
    rcases List.mem_cons.1 h with rfl | h
    · simp
    · have := le_sum r s h
      simp
      omega

set_option maxRecDepth 1000000 in
set_option maxHeartbeats 4000000 in
theorem walk (a0 : Option Addr) (n0 c0 : Nat) (z0 : List ByteArray) (w : World) (h0 : IsStrs w a0 n0 c0 z0) :
    Calls Try.prog 3 #[.slice a0 n0 c0] w fun e w' => e = .returned (.bool true) ∧ Below w.heap.size w w' := by
  obtain ⟨l0, hl0⟩ : ∃ l, l = z0.take n0 := ⟨_, rfl⟩
  have S0 := Lib.hid (show Strs w.heap.size w a0 n0 c0 l0 from hl0 ▸ h0.strs)
  clear hl0 h0
  obtain ⟨q, hq⟩ : ∃ q, sz l0 1048576 = q := ⟨_, rfl⟩
  have cSz := szStringS_any w.heap.size a0 n0 c0 l0 1048576 w (Nat.le_refl _) S0.out (by omega) (by omega)
  rw [hq] at cSz
  have CSZ := Lib.hid cSz
  have HQ := Lib.hid hq
  clear cSz hq
  by_cases hlq : q < 0
  · go_enter Try.func3, Try.ntmps3
    go_wp2_with (go_at_call 9; refine CSZ.out.mono ?_; rintro e w' ⟨rfl, rfl⟩)
    go_ret
    exact ⟨rfl, Below.refl _ _⟩
  have hN0 : n0 + (l0.map (·.size)).sum ≤ 1048576 := by
    have hsum := sz_sum l0 1048576 (by rw [HQ.out]; omega)
    have hlen := S0.out.len
    unfold bytesOf at hsum
    omega
  have hn0 : n0 ≤ 1048576 := by omega
  have HNs := Lib.hid hN0
  clear hN0
  obtain ⟨v0, v1, hsp, him⟩ := agreeBranchesOf l0 (by have := S0.out.len; have := HNs.out; omega)
  have cSp := Lib.hid hsp
  have cIm := Lib.hid him
  clear hsp him
  have hv0 : ((v0 : Int) != v0) = false := by simp
  have hv1 : (v1 != v1) = false := by cases v1 <;> rfl
  go_enter Try.func3, Try.ntmps3
  go_wp2_with (go_at_call 9; refine CSZ.out.mono ?_; rintro e w' ⟨rfl, rfl⟩)
  skip
  refine (toStringS_any w.heap.size a0 n0 c0 l0 w (Nat.le_refl _) S0.out (by omega)).mono ?_
  rintro e w1 ⟨rfl, hst, hsz, hb⟩
  have HB1 := Lib.hid (hb)
  have A0_1 := Lib.hid (hst.mono (show w.heap.size + 1 ≤ w1.heap.size from hsz))
  clear hst hsz hb
  go_wp2_with fail
  refine (cSp.out w1 _ _ _ A0_1.out).mono ?_
  rintro e w2 ⟨rfl, hb⟩
  have HB2 := Lib.hid (HB1.out.trans (hb.mono HB1.out.size))
  have A0_2 := Lib.hid ((A0_1.out.keep hb).mono hb.size)
  clear hb
  go_wp2_with fail
  refine (toStringS_any w2.heap.size a0 n0 c0 l0 w2 (Nat.le_refl _) ((S0.out.keep HB2.out).mono HB2.out.size) (by omega)).mono ?_
  rintro e w3 ⟨rfl, hst, hsz, hb⟩
  have HB3 := Lib.hid (HB2.out.trans (hb.mono HB2.out.size))
  have A0_3 := Lib.hid ((A0_2.out.keep hb).mono hb.size)
  have X0_3 := Lib.hid (hst.mono (show w2.heap.size + 1 ≤ w3.heap.size from hsz))
  clear hst hsz hb
  go_wp2_with fail
  refine (cIm.out w3 _ _ _ X0_3.out).mono ?_
  rintro e w4 ⟨rfl, hb⟩
  have HB4 := Lib.hid (HB3.out.trans (hb.mono HB3.out.size))
  have A0_4 := Lib.hid ((A0_3.out.keep hb).mono hb.size)
  have X0_4 := Lib.hid ((X0_3.out.keep hb).mono hb.size)
  clear hb
  go_wp2_with fail
  refine (toStringS_any w4.heap.size a0 n0 c0 l0 w4 (Nat.le_refl _) ((S0.out.keep HB4.out).mono HB4.out.size) (by omega)).mono ?_
  rintro e w5 ⟨rfl, hst, hsz, hb⟩
  have HB5 := Lib.hid (HB4.out.trans (hb.mono HB4.out.size))
  have A0_5 := Lib.hid ((A0_4.out.keep hb).mono hb.size)
  have X0_5 := Lib.hid ((X0_4.out.keep hb).mono hb.size)
  have Y0_5 := Lib.hid (hst.mono (show w4.heap.size + 1 ≤ w5.heap.size from hsz))
  clear hst hsz hb
  go_wp2_with fail
  have hdec0 : decide (l0 = l0) = true := decide_eq_true rfl
  refine (eqStringS_any w5.heap.size _ _ n0 n0 n0 n0 l0 l0 w5 (Nat.le_refl _) X0_5.out Y0_5.out).mono ?_
  rintro e w6 ⟨rfl, hb⟩
  have HB6 := Lib.hid (HB5.out.trans (hb.mono HB5.out.size))
  have A0_6 := Lib.hid ((A0_5.out.keep hb).mono hb.size)
  have X0_6 := Lib.hid ((X0_5.out.keep hb).mono hb.size)
  have Y0_6 := Lib.hid ((Y0_5.out.keep hb).mono hb.size)
  clear hb
  go_wp2_with fail
  go_ret
  exact ⟨rfl, HB6.out⟩

end Go.Proofs.Ythjafoacnfgjhab.fnExactBranchesOf
