/-
  The reference's list of all substrings of a text.
-/
import Derived.Test.YtmgieahachphmaaText8
import Derived.Test.YtmgieahachphmaaPrt2
namespace Go.Proofs.Ytmgieahachphmaa
open Go.RowKit
set_option linter.unusedVariables false

theorem tx_sub (s : ByteArray) (i k : Nat) : tx (s.extract i k) = ((tx s).drop i).take (k - i) := by
  show (s.extract i k).data.toList = _
  rw [ByteArray.data_extract, Array.toList_extract, List.extract_eq_take_drop]

theorem puts_room {s : ByteArray} (h16 : s.size ≤ 16) {i j : Nat} (hi : i ≤ s.size) (hj : j ≤ s.size) : (puts (strs (tx s) i ++ begs1 ((tx s).drop i) j)).length ≤ 1000 := by
  have h1 := puts_len (strs (tx s) i ++ begs1 ((tx s).drop i) j)
  have h2 := strs_len (tx s) i
  rw [List.length_append, begs1_len] at h1
  rw [tx_len] at h2
  have : i * s.size ≤ 16 * 16 := Nat.mul_le_mul (by omega) h16
  omega

set_option maxRecDepth 1000000 in
set_option maxHeartbeats 1000000 in
theorem l8Parts_any (s : ByteArray) (w : World) (h16 : s.size ≤ 16) :
    Calls Try.prog 42 #[.string s] w fun e w' => ∃ a n c, e = .returned (.slice a n c) ∧ Wds w'.heap.size w' a n c (prt (tx s)) ∧ Below w.heap.size w w' := by
  have hb0 : Below w.heap.size w (w.alloc (.cells #[] 9)) := (Below.refl _ _).alloc (Nat.le_refl _) _
  have HB0 := Lib.hid hb0
  clear hb0
  go_enter Try.func42, Try.ntmps42
  go_wp2
  go_loopw [3, 4] (fun o i wr => ∃ (k n c : Nat) (a : Option Addr), k ≤ s.size ∧ i = .int .i64 k ∧ o = .slice a n c ∧ Hid (Wds wr.heap.size wr a n c (puts (strs (tx s) k))) ∧ Hid (Below w.heap.size w wr)) (fun _ i _ => s.size - (intOf i).toNat)
  case atStart => exact ⟨0, 0, 0, _, Nat.zero_le _, rfl, rfl, Lib.hid (wds_nil _ _ 0 _), HB0⟩
  case round =>
    obtain ⟨k, n, c, a, hk, rfl, rfl, HW, HB⟩ := hrel
    by_cases hlt : k < s.size
    · have HS : Hid (strs (tx s) (k + 1) = strs (tx s) k ++ begs1 ((tx s).drop k) (s.size - k)) := Lib.hid (by rw [← tx_len]; rfl)
      rename World => wo
      go_wp2
      go_loopw [3, 5] (fun o i wr => ∃ (j n c : Nat) (a : Option Addr), k + 1 ≤ j ∧ j ≤ s.size + 1 ∧ i = .int .i64 j ∧ o = .slice a n c ∧ Hid (Wds wr.heap.size wr a n c (puts (strs (tx s) k ++ begs1 ((tx s).drop k) (j - (k + 1))))) ∧ Hid (Below w.heap.size w wr)) (fun _ i _ => s.size + 1 - (intOf i).toNat)
      case atStart => exact ⟨k + 1, n, c, a, by omega, by omega, by go_num, rfl, Lib.hid (by rw [Nat.sub_self, begs1_zero, List.append_nil]; exact HW.out), HB⟩
      case round =>
        clear HW HB
        obtain ⟨j, n, c, a, hj1, hj2, rfl, rfl, HW, HB⟩ := hrel
        by_cases hlt2 : j ≤ s.size
        · have hle1 : (k : Int) ≤ (j : Int) := by omega
          have hle2 : (j : Int) ≤ (s.size : Int) := by omega
          have hk0 : (0 : Int) ≤ (k : Int) := by omega
          have hz := (by rw [ByteArray.size_extract]; omega : (s.extract k j).size ≤ 9223372036854775807)
          have hn : n ≤ 5000000 := by
            have h1 := HW.out.len
            have h2 := puts_room h16 (show k ≤ s.size by omega) (show j - (k + 1) ≤ s.size by omega)
            omega
          have cP := Lib.hid (fun (W : World) (B : Nat) (hB : B ≤ W.heap.size) h => l2Put_any B a n c (puts (strs (tx s) k ++ begs1 ((tx s).drop k) (j - (k + 1)))) (s.extract k j) W hB h hz hn)
          have HN : Hid (put (puts (strs (tx s) k ++ begs1 ((tx s).drop k) (j - (k + 1)))) (tx (s.extract k j)) = puts (strs (tx s) k ++ begs1 ((tx s).drop k) (j + 1 - (k + 1)))) := Lib.hid (by
            rw [← puts_snoc, List.append_assoc, tx_sub, show j + 1 - (k + 1) = j - (k + 1) + 1 by omega, begs1_succ, show j - (k + 1) + 1 = j - k by omega])
          go_wp2_with (go_at_call 35; refine (cP.out _ _ (Nat.le_refl _) HW.out).mono ?_; rintro e w2 ⟨a2, n2, c2, rfl, hW2, hb2⟩; have HW2 := Lib.hid hW2; have HB2 := Lib.hid (HB.out.trans (hb2.mono HB.out.size)); clear hW2 hb2)
          go_roundw
          case rel => exact ⟨j + 1, n2, c2, a2, by omega, by omega, by go_num, rfl, Lib.hid (by rw [← HN.out]; exact HW2.out), HB2⟩
          case measure => simp [intOf]; omega
        · have e : j = s.size + 1 := by omega
          subst e
          go_wp2
          go_roundw
          case rel => exact ⟨k + 1, n, c, a, by omega, by go_num, rfl, Lib.hid (by rw [HS.out]; have := HW.out; rwa [show s.size + 1 - (k + 1) = s.size - k by omega] at this), HB⟩
          case measure => simp [intOf]; omega
    · have e : k = s.size := by omega
      subst e
      go_wp2
      go_ret
      exact ⟨_, _, _, rfl, by have := HW.out; unfold prt stretches; rw [tx_len]; exact this, HB.out⟩

end Go.Proofs.Ytmgieahachphmaa
