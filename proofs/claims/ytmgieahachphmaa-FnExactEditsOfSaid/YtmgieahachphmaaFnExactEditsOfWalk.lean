/-
  The walk of the law FnExactEditsOf: both functions answer the same, in memory of their own.
-/
import Derived.Test.YtmgieahachphmaaEditI
import Derived.Test.YtmgieahachphmaaMarkOwnS
namespace Go.Proofs.Ytmgieahachphmaa.fnExactEditsOf
open Go.RowKit
set_option linter.unusedVariables false

set_option maxRecDepth 1000000 in
set_option maxHeartbeats 2000000 in
theorem walk (s0 : ByteArray) (w : World) (w0 : s0.size ≤ maxLen) :
    Calls Try.prog 3 #[.string s0] w fun e w' => e = .returned (.bool true) ∧ Below w.heap.size w w' := by
  unfold maxLen at w0
  by_cases hb0 : 1048576 < s0.size
  · go_enter Try.func3, Try.ntmps3
    go_wp2_with fail
    go_ret
    exact ⟨rfl, Below.refl _ _⟩
  obtain ⟨ws, ok, hm40, hshort, hsp, him⟩ := agreeEditsOf s0 (by omega)
  have HSh := Lib.hid hshort
  clear hshort
  have cSp := Lib.hid hsp
  have cIm := Lib.hid him
  clear hsp him
  unfold ownS.OwnTexts at cSp cIm
  obtain ⟨m, hmm⟩ : ∃ m, ws.length = m := ⟨_, rfl⟩
  rw [hmm] at cSp cIm hm40
  clear hmm
  have hrr : (ok != ok) = false := by cases ok <;> rfl
  go_enter Try.func3, Try.ntmps3
  go_wp2_with fail
  refine (cSp.out _).mono ?_
  rintro e w3 ⟨v3, rfl, hO3, hb3⟩
  obtain ⟨a3, c3, rfl, hW3⟩ := own_wds hO3 HSh.out
  have H3 := Lib.hid hb3
  have S3 : Hid (Wds w3.heap.size w3 a3 m c3 ws) := Lib.hid hW3
  clear hb3 hW3 hO3
  go_wp2_with fail
  refine (cIm.out _).mono ?_
  rintro e w6 ⟨v6, rfl, hO6, hb6⟩
  obtain ⟨a6, c6, rfl⟩ := own_slice hO6
  have H6 := Lib.hid (H3.out.trans (hb6.mono H3.out.size))
  have K6 := Lib.hid hb6
  have O6 := Lib.hid hO6
  obtain ⟨a6', c6', e6, hW6⟩ := own_wds hO6 HSh.out
  have S6 : Hid (Wds w6.heap.size w6 a6 m c6 ws) := Lib.hid (by injection e6 with e1 _ e2; rw [e1, e2]; exact hW6)
  have S3b := Lib.hid ((S3.out.keep hb6).mono hb6.size)
  clear hO6 hb6 hW6 e6
  go_wp2_with fail
  refine (ownS.eq_same w6.heap.size a6 a3 m c6 c3 _ w6 (Nat.le_refl _) S6.out S3b.out).mono ?_
  rintro e w11 ⟨rfl, hb11⟩
  have H11 := Lib.hid (H6.out.trans (hb11.mono H6.out.size))
  have K11 := Lib.hid (K6.out.trans (hb11.mono K6.out.size))
  have P11 := Lib.hid (own_stay O6.out hb11)
  clear hb11
  have hz11 : w3.heap.size ≤ w11.heap.size := K11.out.size
  go_wp2_with fail
  refine (ownS.mark_own w3.heap.size m c6 a6 _ w11 P11.out hz11 (by omega)).mono ?_
  rintro e w12 ⟨rfl, hM12, hb12⟩
  have h03 : w.heap.size ≤ w3.heap.size := H3.out.size
  have H12 := Lib.hid (H11.out.trans (hb12.mono h03))
  have K12 := Lib.hid (K11.out.trans hb12)
  have M12 := Lib.hid hM12
  clear hb12 hM12 hz11
  go_wp2_with fail
  refine (heldStringS_any w12.heap.size 1 m c6 a6 w12 (Nat.le_refl _) M12.out (by omega) (by omega)).mono ?_
  rintro e w13 ⟨rfl, hb13⟩
  have H13 := Lib.hid (H12.out.trans (hb13.mono H12.out.size))
  have K13 := Lib.hid (K12.out.trans (hb13.mono K12.out.size))
  have M13 := Lib.hid ((M12.out.keep hb13).mono hb13.size)
  clear hb13
  have hq1 : ¬ (((1 + m : Nat) : Int) < 0) := by omega
  have hq2 : (((1 + m : Nat) : Int) != ((1 + m : Nat) : Int)) = false := by simp
  go_wp2_with fail
  refine (cIm.out _).mono ?_
  rintro e w15 ⟨v15, rfl, hO15, hb15⟩
  obtain ⟨a15, c15, rfl, hW15⟩ := own_wds hO15 HSh.out
  have H15 := Lib.hid (H13.out.trans (hb15.mono H13.out.size))
  have K15 := Lib.hid (K13.out.trans (hb15.mono K13.out.size))
  have M15 := Lib.hid ((M13.out.keep hb15).mono hb15.size)
  have T15 : Hid (Wds w15.heap.size w15 a3 m c3 ws) := Lib.hid ((S3.out.keep K15.out).mono K15.out.size)
  have S15 : Hid (Wds w15.heap.size w15 a15 m c15 ws) := Lib.hid hW15
  clear hO15 hb15 hW15
  go_wp2_with fail
  refine (ownS.eq_same w15.heap.size a15 a3 m c15 c3 _ w15 (Nat.le_refl _) S15.out T15.out).mono ?_
  rintro e w16 ⟨rfl, hb16⟩
  have H16 := Lib.hid (H15.out.trans (hb16.mono H15.out.size))
  have M16 := Lib.hid ((M15.out.keep hb16).mono hb16.size)
  clear hb16
  go_wp2_with fail
  refine (heldStringS_any w16.heap.size 1 m c6 a6 w16 (Nat.le_refl _) M16.out (by omega) (by omega)).mono ?_
  rintro e w17 ⟨rfl, hb17⟩
  have H17 := Lib.hid (H16.out.trans (hb17.mono H16.out.size))
  clear hb17
  go_wp2_with fail
  go_ret
  exact ⟨rfl, H17.out⟩

end Go.Proofs.Ytmgieahachphmaa.fnExactEditsOf
