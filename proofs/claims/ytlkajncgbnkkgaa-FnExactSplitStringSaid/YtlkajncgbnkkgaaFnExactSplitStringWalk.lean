/-
  The walk of the law FnExactSplitString: both functions answer the same, in memory of their own.
-/
import Derived.Test.YtlkajncgbnkkgaaSplitImplWalk
import Derived.Test.YtlkajncgbnkkgaaMark
namespace Go.Proofs.Ytlkajncgbnkkgaa.fnExactSplitString
open Go.RowKit
set_option linter.unusedVariables false

theorem eq_same (B : Nat) (a1 a2 : Option Addr) (n c d : Nat) (xs : List ByteArray) (w : World) (hB : B ≤ w.heap.size) (h1 : Strs B w a1 n c xs) (h2 : Strs B w a2 n d xs) :
    Calls Try.prog 16 #[.slice a1 n c, .slice a2 n d] w fun e w' => e = .returned (.bool true) ∧ Below w.heap.size w w' := by
  have := eqStringS_any B a1 a2 n c n d xs xs w hB h1 h2
  rwa [decide_eq_true rfl] at this

theorem ans_each (s sep : ByteArray) (hs : s.size ≤ 1048576) : ∀ t ∈ splAns s sep, t.size ≤ 9223372036854775807 := by
  intro t ht
  unfold splAns at ht
  by_cases h : sep.size = 1 ∧ s.size ≤ 4000
  · rw [if_pos h] at ht
    have := spl_each s _ t ht
    omega
  · rw [if_neg h] at ht
    simp at ht

theorem ans_len (s sep : ByteArray) (hs : s.size ≤ 1048576) : (splAns s sep).length ≤ 2000000 := by
  unfold splAns
  by_cases h : sep.size = 1 ∧ s.size ≤ 4000
  · rw [if_pos h]
    have := spl_len s (sep.data.toList.headD 0)
    omega
  · rw [if_neg h]
    simp

theorem marks_each (k n : Nat) (h : k + n ≤ 10000000) : ∀ t ∈ marks k n, t.size ≤ 9223372036854775807 := by
  have hm : ∀ (f j : Nat) (m : ByteArray), (mtl f j m).size ≤ m.size + f := by
    intro f
    induction f with
    | zero => intro j m; simp [mtl]
    | succ f ih =>
      intro j m
      rw [mtl]
      by_cases h0 : j = 0
      · rw [if_pos h0]; omega
      · rw [if_neg h0]
        have := ih (j / 10) (strOfNums [48 + (j : Int) % 10] ++ m)
        rw [ByteArray.size_append, strOfNums_size] at this
        simp at this
        omega
  intro t ht
  unfold marks at ht
  obtain ⟨i, hi, rfl⟩ := List.mem_map.1 ht
  simp at hi
  unfold mt
  by_cases h0 : k + i = 0
  · rw [if_pos h0]; show 2 ≤ _; omega
  · rw [if_neg h0, ByteArray.size_append]
    have h1 := hm (k + i) (k + i) ⟨#[]⟩
    have h2 : (⟨#[]⟩ : ByteArray).size = 0 := rfl
    have h3 : (⟨#[109]⟩ : ByteArray).size = 1 := rfl
    omega

set_option maxHeartbeats 1000000 in
theorem walk (s sep : ByteArray) (w : World) (w0 : s.size ≤ maxLen) (w1 : sep.size ≤ maxLen) :
    Calls Try.prog 4 #[.string s, .string sep] w fun e w' => e = .returned (.bool true) ∧ Below w.heap.size w w' := by
  unfold maxLen at w0 w1
  by_cases hb : 1048576 < s.size
  · go_enter Try.func4, Try.ntmps4
    go_wp2_with fail
    go_ret
    exact ⟨rfl, Below.refl _ _⟩
  · by_cases hb' : 1048576 < sep.size
    · go_enter Try.func4, Try.ntmps4
      go_wp2_with fail
      go_ret
      exact ⟨rfl, Below.refl _ _⟩
    · have hs : s.size ≤ 1048576 := by omega
      have hsep : sep.size ≤ 1048576 := by omega
      have HE := Lib.hid (ans_each s sep hs)
      have hn := ans_len s sep hs
      obtain ⟨n, hN⟩ : ∃ n, (splAns s sep).length = n := ⟨_, rfl⟩
      obtain ⟨zs, hZ⟩ : ∃ zs, splAns s sep = zs := ⟨_, rfl⟩
      obtain ⟨ok, hO⟩ : ∃ ok, splOk s sep = ok := ⟨_, rfl⟩
      rw [hZ] at HE
      rw [hN] at hn
      have c1 := Lib.hid (fun w => specSplit_any s sep w hs hsep)
      have c2 := Lib.hid (fun w => implSplit_any s sep w hs hsep)
      unfold SplitPost at c1 c2
      rw [hO, hN, hZ] at c1 c2
      have hbb : (ok != ok) = false := by cases ok <;> rfl
      clear hZ hN hO
      go_enter Try.func4, Try.ntmps4
      go_wp2_with fail
      refine (c1.out _).mono ?_
      rintro e w1 ⟨g0, k0, rfl, o1, hb1⟩
      have l1 := own_lt o1
      have S1 := Lib.hid (strs_of_own o1 HE.out l1)
      clear o1
      go_wp2_with fail
      refine (c2.out _).mono ?_
      rintro e w2 ⟨g, k, rfl, o2, hb2⟩
      have l2 := own_lt o2
      have B2 := own_base o2
      have hb02 := hb1.trans (hb2.mono hb1.size)
      have S2 := Lib.hid (strs_of_own o2 HE.out l2)
      have O2 := Lib.hid o2
      clear o2
      go_wp2_with fail
      refine (eq_same w2.heap.size _ _ n k k0 zs w2 (Nat.le_refl _) S2.out ((S1.out.keep hb2).mono hb2.size)).mono ?_
      rintro e w3 ⟨rfl, hb3⟩
      have hb03 := hb02.trans (hb3.mono hb02.size)
      have O3 := Lib.hid (own_keep O2.out hb3)
      go_wp2_with fail
      refine (markStringS_any w1.heap.size g n k 1 _ w3 O3.out (by have := hb2.size; have := hb3.size; omega) (by omega) (by omega)).mono ?_
      rintro e w4 ⟨rfl, o4, hb4⟩
      have l4 := own_lt o4
      have S4 := Lib.hid (strs_of_own o4 (marks_each 1 n (by omega)) l4)
      have hb04 := hb03.trans (hb4.mono hb1.size)
      clear o4
      go_wp2_with fail
      refine (heldStringS_any w4.heap.size 1 n k _ w4 (Nat.le_refl _) S4.out (by omega) (by omega)).mono ?_
      rintro e w5 ⟨rfl, hb5⟩
      have hb05 := hb04.trans (hb5.mono hb04.size)
      have hq1 : ¬ (((1 + n : Nat) : Int) < 0) := by omega
      have hq2 : (((1 + n : Nat) : Int) != ((1 + n : Nat) : Int)) = false := by simp
      go_wp2_with fail
      refine (c2.out _).mono ?_
      rintro e w6 ⟨g6, k6, rfl, o6, hb6⟩
      have l6 := own_lt o6
      have S6 := Lib.hid (strs_of_own o6 HE.out l6)
      have hb06 := hb05.trans (hb6.mono hb05.size)
      clear o6
      have z2 := hb2.size
      have z3 := hb3.size
      have z4 := hb4.size
      have z5 := hb5.size
      have z6 := hb6.size
      have S1' := Lib.hid (((((S1.out.keep hb2).keep (hb3.mono (by omega))).keep hb4).keep (hb5.mono (by omega))).keep (hb6.mono (by omega)))
      go_wp2_with fail
      refine (eq_same w6.heap.size _ _ n k6 k0 zs w6 (Nat.le_refl _) S6.out (S1'.out.mono (by omega))).mono ?_
      rintro e w7 ⟨rfl, hb7⟩
      have z7 := hb7.size
      have hb07 := hb06.trans (hb7.mono hb06.size)
      have S4' := Lib.hid (((S4.out.keep hb5).keep (hb6.mono (by omega))).keep (hb7.mono (by omega)))
      go_wp2_with fail
      refine (heldStringS_any w7.heap.size 1 n k _ w7 (Nat.le_refl _) (S4'.out.mono (by omega)) (by omega) (by omega)).mono ?_
      rintro e w8 ⟨rfl, hb8⟩
      have hb08 := hb07.trans (hb8.mono hb07.size)
      go_wp2_with fail
      go_ret
      exact ⟨rfl, hb08⟩

end Go.Proofs.Ytlkajncgbnkkgaa.fnExactSplitString
