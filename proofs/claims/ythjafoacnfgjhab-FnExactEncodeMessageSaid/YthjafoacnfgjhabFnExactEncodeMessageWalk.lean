/-
  The walk of the law FnExactEncodeMessage: both functions answer the same.
-/
import Derived.Test.YthjafoacnfgjhabEncJ10
import Derived.Test.YthjafoacnfgjhabInts
import Derived.Test.YthjafoacnfgjhabStrsWalks
namespace Go.Proofs.Ythjafoacnfgjhab.fnExactEncodeMessage
open Go.RowKit
set_option linter.unusedVariables false

theorem le_sum : ∀ (zs : List ByteArray) (s : ByteArray), s ∈ zs → s.size ≤ (zs.map (·.size)).sum
  | [], s, h => by simp at h
  | z :: r, s, h => by
    rcases List.mem_cons.1 h with rfl | h
    · simp
    · have := le_sum r s h
      simp
      omega

set_option maxRecDepth 1000000 in
set_option maxHeartbeats 4000000 in
theorem walk (a0 : Option Addr) (n0 c0 : Nat) (z0 : List ByteArray) (a1 : Option Addr) (n1 c1 : Nat) (z1 : List Int) (w : World) (h0 : IsStrs w a0 n0 c0 z0) (h1 : IsInts w a1 n1 c1 z1) :
    Calls Try.prog 5 #[.slice a0 n0 c0, .slice a1 n1 c1] w fun e w' => e = .returned (.bool true) ∧ Below w.heap.size w w' := by
  obtain ⟨l0, hl0⟩ : ∃ l, l = z0.take n0 := ⟨_, rfl⟩
  have S0 := Lib.hid (show Strs w.heap.size w a0 n0 c0 l0 from hl0 ▸ h0.strs)
  clear hl0 h0
  obtain ⟨l1, hl1⟩ : ∃ l, l = z1.take n1 := ⟨_, rfl⟩
  have S1 := Lib.hid (show Ints w.heap.size w a1 n1 c1 l1 from hl1 ▸ h1.ints)
  clear hl1 h1
  by_cases hb1 : 1048576 < n1
  · go_enter Try.func5, Try.ntmps5
    go_wp2_with fail
    go_ret
    exact ⟨rfl, Below.refl _ _⟩
  obtain ⟨q, hq⟩ : ∃ q, sz l0 1048576 = q := ⟨_, rfl⟩
  have cSz := szStringS_any w.heap.size a0 n0 c0 l0 1048576 w (Nat.le_refl _) S0.out (by omega) (by omega)
  rw [hq] at cSz
  have CSZ := Lib.hid cSz
  have HQ := Lib.hid hq
  clear cSz hq
  by_cases hlq : q < 0
  · go_enter Try.func5, Try.ntmps5
    go_wp2_with (go_at_call 9; refine CSZ.out.mono ?_; rintro e w' ⟨rfl, rfl⟩)
    go_ret
    exact ⟨rfl, Below.refl _ _⟩
  have hN0 : n0 + (l0.map (·.size)).sum ≤ 1048576 := by
    have hsum := sz_sum l0 1048576 (by rw [HQ.out]; omega)
    have hlen := S0.out.len
    unfold bytesOf at hsum
    omega
  have hn0 : n0 ≤ 1048576 := by omega
  have HNs := Lib.hid hN0
  clear hN0
  obtain ⟨v0, v1, hsp, him⟩ := agreeEncodeMessage l0 l1 (by have := S0.out.len; have := HNs.out; omega) (by have := S1.out.len; omega)
  have cSp := Lib.hid hsp
  have cIm := Lib.hid him
  clear hsp him
  have hv0 : (v0.toList == v0.toList) = true := by simp
  have hu0 : (v0.toList != v0.toList) = false := by simp
  have hv1 : (v1 != v1) = false := by cases v1 <;> rfl
  go_enter Try.func5, Try.ntmps5
  go_wp2_with (go_at_call 9; refine CSZ.out.mono ?_; rintro e w' ⟨rfl, rfl⟩)
  skip
  refine (toStringS_any w.heap.size a0 n0 c0 l0 w (Nat.le_refl _) S0.out (by omega)).mono ?_
  rintro e w1 ⟨rfl, hst, hsz, hb⟩
  have HB1 := Lib.hid (hb)
  have A0_1 := Lib.hid (hst.mono (show w.heap.size + 1 ≤ w1.heap.size from hsz))
  clear hst hsz hb
  go_wp2_with fail
  refine (toIntS_any w1.heap.size a1 n1 c1 l1 w1 (Nat.le_refl _) ((S1.out.keep HB1.out).mono HB1.out.size) (by omega)).mono ?_
  rintro e w2 ⟨rfl, hst, hsz, hb⟩
  have HB2 := Lib.hid (HB1.out.trans (hb.mono HB1.out.size))
  have A0_2 := Lib.hid ((A0_1.out.keep hb).mono hb.size)
  have A1_2 := Lib.hid (hst.mono (show w1.heap.size + 1 ≤ w2.heap.size from hsz))
  clear hst hsz hb
  go_wp2_with fail
  refine (cSp.out w2 _ _ _ A0_2.out _ _ _ A1_2.out).mono ?_
  rintro e w3 ⟨rfl, hb⟩
  have HB3 := Lib.hid (HB2.out.trans (hb.mono HB2.out.size))
  have A0_3 := Lib.hid ((A0_2.out.keep hb).mono hb.size)
  have A1_3 := Lib.hid ((A1_2.out.keep hb).mono hb.size)
  clear hb
  go_wp2_with fail
  refine (toStringS_any w3.heap.size a0 n0 c0 l0 w3 (Nat.le_refl _) ((S0.out.keep HB3.out).mono HB3.out.size) (by omega)).mono ?_
  rintro e w4 ⟨rfl, hst, hsz, hb⟩
  have HB4 := Lib.hid (HB3.out.trans (hb.mono HB3.out.size))
  have A0_4 := Lib.hid ((A0_3.out.keep hb).mono hb.size)
  have A1_4 := Lib.hid ((A1_3.out.keep hb).mono hb.size)
  have X0_4 := Lib.hid (hst.mono (show w3.heap.size + 1 ≤ w4.heap.size from hsz))
  clear hst hsz hb
  go_wp2_with fail
  refine (toIntS_any w4.heap.size a1 n1 c1 l1 w4 (Nat.le_refl _) ((S1.out.keep HB4.out).mono HB4.out.size) (by omega)).mono ?_
  rintro e w5 ⟨rfl, hst, hsz, hb⟩
  have HB5 := Lib.hid (HB4.out.trans (hb.mono HB4.out.size))
  have A0_5 := Lib.hid ((A0_4.out.keep hb).mono hb.size)
  have A1_5 := Lib.hid ((A1_4.out.keep hb).mono hb.size)
  have X0_5 := Lib.hid ((X0_4.out.keep hb).mono hb.size)
  have X1_5 := Lib.hid (hst.mono (show w4.heap.size + 1 ≤ w5.heap.size from hsz))
  clear hst hsz hb
  go_wp2_with fail
  refine (cIm.out w5 _ _ _ X0_5.out _ _ _ X1_5.out).mono ?_
  rintro e w6 ⟨rfl, hb⟩
  have HB6 := Lib.hid (HB5.out.trans (hb.mono HB5.out.size))
  have A0_6 := Lib.hid ((A0_5.out.keep hb).mono hb.size)
  have A1_6 := Lib.hid ((A1_5.out.keep hb).mono hb.size)
  have X0_6 := Lib.hid ((X0_5.out.keep hb).mono hb.size)
  have X1_6 := Lib.hid ((X1_5.out.keep hb).mono hb.size)
  clear hb
  go_wp2_with fail
  refine (toStringS_any w6.heap.size a0 n0 c0 l0 w6 (Nat.le_refl _) ((S0.out.keep HB6.out).mono HB6.out.size) (by omega)).mono ?_
  rintro e w7 ⟨rfl, hst, hsz, hb⟩
  have HB7 := Lib.hid (HB6.out.trans (hb.mono HB6.out.size))
  have A0_7 := Lib.hid ((A0_6.out.keep hb).mono hb.size)
  have A1_7 := Lib.hid ((A1_6.out.keep hb).mono hb.size)
  have X0_7 := Lib.hid ((X0_6.out.keep hb).mono hb.size)
  have X1_7 := Lib.hid ((X1_6.out.keep hb).mono hb.size)
  have Y0_7 := Lib.hid (hst.mono (show w6.heap.size + 1 ≤ w7.heap.size from hsz))
  clear hst hsz hb
  go_wp2_with fail
  have hdec0 : decide (l0 = l0) = true := decide_eq_true rfl
  refine (eqStringS_any w7.heap.size _ _ n0 n0 n0 n0 l0 l0 w7 (Nat.le_refl _) X0_7.out Y0_7.out).mono ?_
  rintro e w8 ⟨rfl, hb⟩
  have HB8 := Lib.hid (HB7.out.trans (hb.mono HB7.out.size))
  have A0_8 := Lib.hid ((A0_7.out.keep hb).mono hb.size)
  have A1_8 := Lib.hid ((A1_7.out.keep hb).mono hb.size)
  have X0_8 := Lib.hid ((X0_7.out.keep hb).mono hb.size)
  have X1_8 := Lib.hid ((X1_7.out.keep hb).mono hb.size)
  have Y0_8 := Lib.hid ((Y0_7.out.keep hb).mono hb.size)
  clear hb
  go_wp2_with fail
  refine (toIntS_any w8.heap.size a1 n1 c1 l1 w8 (Nat.le_refl _) ((S1.out.keep HB8.out).mono HB8.out.size) (by omega)).mono ?_
  rintro e w9 ⟨rfl, hst, hsz, hb⟩
  have HB9 := Lib.hid (HB8.out.trans (hb.mono HB8.out.size))
  have A0_9 := Lib.hid ((A0_8.out.keep hb).mono hb.size)
  have A1_9 := Lib.hid ((A1_8.out.keep hb).mono hb.size)
  have X0_9 := Lib.hid ((X0_8.out.keep hb).mono hb.size)
  have X1_9 := Lib.hid ((X1_8.out.keep hb).mono hb.size)
  have Y1_9 := Lib.hid (hst.mono (show w8.heap.size + 1 ≤ w9.heap.size from hsz))
  clear hst hsz hb
  go_wp2_with fail
  refine (eqIntZ_same w9.heap.size _ _ n1 n1 n1 l1 w9 (Nat.le_refl _) X1_9.out.sl Y1_9.out.sl).mono ?_
  rintro e w10 ⟨rfl, hb⟩
  have HB10 := Lib.hid (HB9.out.trans (hb.mono HB9.out.size))
  have A0_10 := Lib.hid ((A0_9.out.keep hb).mono hb.size)
  have A1_10 := Lib.hid ((A1_9.out.keep hb).mono hb.size)
  have X0_10 := Lib.hid ((X0_9.out.keep hb).mono hb.size)
  have X1_10 := Lib.hid ((X1_9.out.keep hb).mono hb.size)
  have Y1_10 := Lib.hid ((Y1_9.out.keep hb).mono hb.size)
  clear hb
  go_wp2_with fail
  go_ret
  exact ⟨rfl, HB10.out⟩

end Go.Proofs.Ythjafoacnfgjhab.fnExactEncodeMessage
