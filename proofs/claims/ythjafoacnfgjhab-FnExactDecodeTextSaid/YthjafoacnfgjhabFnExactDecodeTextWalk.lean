/-
  The walk of the law FnExactDecodeText: both functions answer the same.
-/
import Derived.Test.YthjafoacnfgjhabDecL10
import Derived.Test.YthjafoacnfgjhabStrsTo
import Derived.Test.YthjafoacnfgjhabMarkOwnI
import Derived.Test.YthjafoacnfgjhabStrsOwn
namespace Go.Proofs.Ythjafoacnfgjhab.fnExactDecodeText
open Go.RowKit
set_option linter.unusedVariables false

theorem le_sum : ∀ (zs : List ByteArray) (s : ByteArray), s ∈ zs → s.size ≤ (zs.map (·.size)).sum
  | [], s, h => by simp at h
  | z :: r, s, h => by
    rcases List.mem_cons.1 h with rfl | h
    · simp
    · have := le_sum r s h
      simp
      omega

set_option maxRecDepth 1000000 in
set_option maxHeartbeats 4000000 in
theorem walk (a0 : Option Addr) (n0 c0 : Nat) (z0 : List ByteArray) (s1 : ByteArray) (w : World) (h0 : IsStrs w a0 n0 c0 z0) (h1 : s1.size ≤ maxLen) :
    Calls Try.prog 6 #[.slice a0 n0 c0, .string s1] w fun e w' => e = .returned (.bool true) ∧ Below w.heap.size w w' := by
  obtain ⟨l0, hl0⟩ : ∃ l, l = z0.take n0 := ⟨_, rfl⟩
  have S0 := Lib.hid (show Strs w.heap.size w a0 n0 c0 l0 from hl0 ▸ h0.strs)
  clear hl0 h0
  unfold maxLen at h1
  by_cases hb1 : 1048576 < s1.size
  · go_enter Try.func6, Try.ntmps6
    go_wp2_with fail
    go_ret
    exact ⟨rfl, Below.refl _ _⟩
  obtain ⟨q, hq⟩ : ∃ q, sz l0 1048576 = q := ⟨_, rfl⟩
  have cSz := szStringS_any w.heap.size a0 n0 c0 l0 1048576 w (Nat.le_refl _) S0.out (by omega) (by omega)
  rw [hq] at cSz
  have CSZ := Lib.hid cSz
  have HQ := Lib.hid hq
  clear cSz hq
  by_cases hlq : q < 0
  · go_enter Try.func6, Try.ntmps6
    go_wp2_with (go_at_call 9; refine CSZ.out.mono ?_; rintro e w' ⟨rfl, rfl⟩)
    go_ret
    exact ⟨rfl, Below.refl _ _⟩
  have hN0 : n0 + (l0.map (·.size)).sum ≤ 1048576 := by
    have hsum := sz_sum l0 1048576 (by rw [HQ.out]; omega)
    have hlen := S0.out.len
    unfold bytesOf at hsum
    omega
  have hn0 : n0 ≤ 1048576 := by omega
  have HNs := Lib.hid hN0
  clear hN0
  obtain ⟨v0, v1, L, hm, hsp, him⟩ := agreeDecodeText l0 s1 (by have := S0.out.len; have := HNs.out; omega) (by omega)
  have cSp := Lib.hid hsp
  have cIm := Lib.hid him
  clear hsp him
  obtain ⟨m, hmm⟩ : ∃ m, L.length = m := ⟨_, rfl⟩
  rw [hmm] at cSp cIm hm
  clear hmm
  have hv0 : ((v0 : Int) != v0) = false := by simp
  have hv1 : (v1 != v1) = false := by cases v1 <;> rfl
  go_enter Try.func6, Try.ntmps6
  go_wp2_with (go_at_call 9; refine CSZ.out.mono ?_; rintro e w' ⟨rfl, rfl⟩)
  refine (toStringS_own w.heap.size a0 n0 c0 l0 w (Nat.le_refl _) S0.out (by omega)).mono ?_
  rintro e w1 ⟨rfl, _, hst, hsz, hb⟩
  have H1 := Lib.hid hb
  have A1 := Lib.hid hst
  clear hst hsz hb
  go_wp2_with fail
  refine (cSp.out w1 _ _ _ A1.out).mono ?_
  rintro e w2 ⟨vr, rfl, hO, hb⟩
  obtain ⟨a2, c2, rfl, hW⟩ := own_nums hO
  have H2 := Lib.hid (H1.out.trans (hb.mono H1.out.size))
  have R2 : Hid (Sl w2.heap.size w2 a2 m c2 (nums L)) := Lib.hid hW
  clear hO hW hb A1
  go_wp2_with fail
  refine (toStringS_own w2.heap.size a0 n0 c0 l0 w2 (Nat.le_refl _) ((S0.out.keep H2.out).mono H2.out.size) (by omega)).mono ?_
  rintro e w3 ⟨rfl, hox, hst, hsz, hb⟩
  have H3 := Lib.hid (H2.out.trans (hb.mono H2.out.size))
  have K3 := Lib.hid hb
  have X3 := Lib.hid hst
  have Q3 := Lib.hid hox
  have hz3 : w2.heap.size < w3.heap.size := hsz
  clear hox hst hsz hb
  go_wp2_with fail
  refine (cIm.out w3 _ _ _ X3.out).mono ?_
  rintro e w4 ⟨vg, rfl, hO, hb⟩
  obtain ⟨a4, c4, rfl⟩ := own_slice hO
  obtain ⟨a4', c4', e4, hW⟩ := own_nums hO
  have H4 := Lib.hid (H3.out.trans (hb.mono H3.out.size))
  have K4 := Lib.hid (K3.out.trans (hb.mono K3.out.size))
  have X4 := Lib.hid ((X3.out.keep hb).mono hb.size)
  have Q4 := Lib.hid (own_stay Q3.out hb)
  have G4 := Lib.hid hO
  have Z4 : Hid (w3.heap.size ≤ w4.heap.size) := Lib.hid hb.size
  have V4 : Hid (Sl w4.heap.size w4 a4 m c4 (nums L)) := Lib.hid (by injection e4 with e1 _ e2; rw [e1, e2]; exact hW)
  have R4 : Hid (Sl w4.heap.size w4 a2 m c2 (nums L)) := Lib.hid ((R2.out.keep K4.out).mono K4.out.size)
  clear hO hW hb e4
  go_wp2_with fail
  refine (eqIntS_same w4.heap.size a4 a2 m c4 c2 _ w4 (Nat.le_refl _) V4.out R4.out).mono ?_
  rintro e w5 ⟨rfl, hb⟩
  have H5 := Lib.hid (H4.out.trans (hb.mono H4.out.size))
  have K5 := Lib.hid (K4.out.trans (hb.mono K4.out.size))
  have X5 := Lib.hid ((X4.out.keep hb).mono hb.size)
  have Q5 := Lib.hid (own_stay Q4.out hb)
  have G5 := Lib.hid (own_stay G4.out hb)
  have Z5 : Hid (w3.heap.size ≤ w5.heap.size) := Lib.hid (Nat.le_trans Z4.out hb.size)
  clear hb
  go_wp2_with fail
  refine (toStringS_own w5.heap.size a0 n0 c0 l0 w5 (Nat.le_refl _) ((S0.out.keep H5.out).mono H5.out.size) (by omega)).mono ?_
  rintro e w6 ⟨rfl, _, hst, hsz, hb⟩
  have H6 := Lib.hid (H5.out.trans (hb.mono H5.out.size))
  have K6 := Lib.hid (K5.out.trans (hb.mono K5.out.size))
  have X6 := Lib.hid ((X5.out.keep hb).mono hb.size)
  have Q6 := Lib.hid (own_stay Q5.out hb)
  have G6 := Lib.hid (own_stay G5.out hb)
  have Z6 : Hid (w3.heap.size ≤ w6.heap.size) := Lib.hid (Nat.le_trans Z5.out hb.size)
  have Y6 := Lib.hid hst
  clear hb hst hsz
  go_wp2_with fail
  have hdec : decide (l0 = l0) = true := decide_eq_true rfl
  refine (eqStringS_any w6.heap.size _ _ n0 n0 n0 n0 l0 l0 w6 (Nat.le_refl _) X6.out Y6.out).mono ?_
  rintro e w7 ⟨rfl, hb⟩
  have H7 := Lib.hid (H6.out.trans (hb.mono H6.out.size))
  have K7 := Lib.hid (K6.out.trans (hb.mono K6.out.size))
  have Q7 := Lib.hid (own_stay Q6.out hb)
  have G7 := Lib.hid (own_stay G6.out hb)
  have Z7 : Hid (w3.heap.size ≤ w7.heap.size) := Lib.hid (Nat.le_trans Z6.out hb.size)
  clear hb
  go_wp2_with fail
  refine (markStringS_copy w2.heap.size w2.heap.size n0 n0 _ w7 Q7.out (by omega) K7.out.size).mono ?_
  rintro e w8 ⟨rfl, hg⟩
  have hb := grown_belowS hg (by have := K7.out.size; omega)
  have hz2 : w.heap.size ≤ w2.heap.size := H2.out.size
  have H8 := Lib.hid (H7.out.trans (hb.mono hz2))
  have K8 := Lib.hid (K7.out.trans hb)
  have G8 := Lib.hid (own_farS G7.out hg hz3)
  have Z8 : Hid (w3.heap.size ≤ w8.heap.size) := Lib.hid (Nat.le_trans Z7.out hg.size)
  have R8 : Hid (Sl w8.heap.size w8 a2 m c2 (nums L)) := Lib.hid ((R2.out.keep K8.out).mono K8.out.size)
  obtain ⟨a8, c8, e8, hW⟩ := own_nums G8.out
  have V8 : Hid (Sl w8.heap.size w8 a4 m c4 (nums L)) := Lib.hid (by injection e8 with e1 _ e2; rw [e1, e2]; exact hW)
  clear hb hg hW e8
  have hq0 : ¬ (((1 + n0 : Nat) : Int) < 0) := by omega
  go_wp2_with fail
  refine (eqIntS_same w8.heap.size a4 a2 m c4 c2 _ w8 (Nat.le_refl _) V8.out R8.out).mono ?_
  rintro e w9 ⟨rfl, hb⟩
  have H9 := Lib.hid (H8.out.trans (hb.mono H8.out.size))
  have K9 := Lib.hid (K8.out.trans (hb.mono K8.out.size))
  have G9 := Lib.hid (own_stay G8.out hb)
  have Z9 : Hid (w3.heap.size ≤ w9.heap.size) := Lib.hid (Nat.le_trans Z8.out hb.size)
  clear hb
  go_wp2_with fail
  have hz9 : w3.heap.size ≤ w9.heap.size := Z9.out
  refine (ownI.mark_own w3.heap.size m c4 a4 _ w9 G9.out hz9 (by omega)).mono ?_
  rintro e w10 ⟨rfl, hM, hb⟩
  have H10 := Lib.hid (H9.out.trans (hb.mono (Nat.le_trans hz2 (Nat.le_of_lt hz3))))
  have K10 := Lib.hid (K9.out.trans (hb.mono (Nat.le_of_lt hz3)))
  have M10 := Lib.hid hM
  clear hb hM hz9
  go_wp2_with fail
  refine (heldIntS_any w10.heap.size 1 m c4 a4 w10 M10.out (by omega) (by omega)).mono ?_
  rintro e w11 ⟨rfl, eh⟩
  have hb : Below w10.heap.size w10 w11 := by rw [← eh]; exact Below.refl _ _
  clear eh
  have H11 := Lib.hid (H10.out.trans (hb.mono H10.out.size))
  have K11 := Lib.hid (K10.out.trans (hb.mono K10.out.size))
  have M11 := Lib.hid ((M10.out.keep hb).mono hb.size)
  clear hb
  have hq1 : ¬ (((1 + m : Nat) : Int) < 0) := by omega
  have hq2 : (((1 + m : Nat) : Int) != ((1 + m : Nat) : Int)) = false := by simp
  go_wp2_with fail
  refine (toStringS_own w11.heap.size a0 n0 c0 l0 w11 (Nat.le_refl _) ((S0.out.keep H11.out).mono H11.out.size) (by omega)).mono ?_
  rintro e w12 ⟨rfl, _, hst, hsz, hb⟩
  have H12 := Lib.hid (H11.out.trans (hb.mono H11.out.size))
  have K12 := Lib.hid (K11.out.trans (hb.mono K11.out.size))
  have M12 := Lib.hid ((M11.out.keep hb).mono hb.size)
  have Y12 := Lib.hid hst
  clear hb hst hsz
  go_wp2_with fail
  refine (cIm.out w12 _ _ _ Y12.out).mono ?_
  rintro e w13 ⟨vh, rfl, hO, hb⟩
  obtain ⟨a13, c13, rfl, hW⟩ := own_nums hO
  have H13 := Lib.hid (H12.out.trans (hb.mono H12.out.size))
  have K13 := Lib.hid (K12.out.trans (hb.mono K12.out.size))
  have M13 := Lib.hid ((M12.out.keep hb).mono hb.size)
  have V13 : Hid (Sl w13.heap.size w13 a13 m c13 (nums L)) := Lib.hid hW
  have R13 : Hid (Sl w13.heap.size w13 a2 m c2 (nums L)) := Lib.hid ((R2.out.keep K13.out).mono K13.out.size)
  clear hO hW hb
  go_wp2_with fail
  refine (eqIntS_same w13.heap.size a13 a2 m c13 c2 _ w13 (Nat.le_refl _) V13.out R13.out).mono ?_
  rintro e w14 ⟨rfl, hb⟩
  have H14 := Lib.hid (H13.out.trans (hb.mono H13.out.size))
  have M14 := Lib.hid ((M13.out.keep hb).mono hb.size)
  clear hb
  go_wp2_with fail
  refine (heldIntS_any w14.heap.size 1 m c4 a4 w14 M14.out (by omega) (by omega)).mono ?_
  rintro e w15 ⟨rfl, eh⟩
  have hb : Below w14.heap.size w14 w15 := by rw [← eh]; exact Below.refl _ _
  clear eh
  have H15 := Lib.hid (H14.out.trans (hb.mono H14.out.size))
  clear hb
  go_wp2_with fail
  go_ret
  exact ⟨rfl, H15.out⟩

end Go.Proofs.Ythjafoacnfgjhab.fnExactDecodeText
