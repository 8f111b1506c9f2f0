/-
  How many letters two texts have in common at their beginnings: the reference's function.
-/
import Derived.Test.YtibdfhhbkbncgaaPut
import Derived.Test.YtibdfhhbkbncgaaComM
import Derived.Deep.QuietTactic
import Derived.BigQuiet
namespace Go.Proofs.Ytibdfhhbkbncgaa
open Go.RowKit
set_option linter.unusedVariables false

set_option maxRecDepth 1000000 in
set_option maxHeartbeats 1000000 in
theorem l9Common_any (s t : ByteArray) (w : World) (hs : s.size ≤ 9223372036854775807) (ht : t.size ≤ 9223372036854775807) :
    Calls Try.prog 48 #[.string s, .string t] w fun e w' => e = .returned (.int .i64 (com (tx s) (tx t) : Int)) ∧ ∃ q, w' = w.drewN q := by
  go_enter Try.func48, Try.ntmps48
  go_wp2
  go_loopw [5] (fun i wr => ∃ k q : Nat, k ≤ s.size ∧ k ≤ t.size ∧ i = .int .i64 k ∧ Hid (com ((tx s).drop k) ((tx t).drop k) + k = com (tx s) (tx t)) ∧ wr = w.drewN q) (fun i _ => s.size - (intOf i).toNat)
  case atStart => exact ⟨0, 0, Nat.zero_le _, Nat.zero_le _, rfl, Lib.hid rfl, rfl⟩
  case round =>
    obtain ⟨k, q, hk, hk', rfl, HE, rfl⟩ := hrel
    have hi0 : (0 : Int) ≤ (k : Int) := by omega
    by_cases h1 : k < s.size
    · by_cases h2 : k < t.size
      · have hi1 : (k : Int) < (s.size : Int) := by omega
        have hi2 : (k : Int) < (t.size : Int) := by omega
        have hd1 : decide ((k : Int) < (s.size : Int)) = true := decide_eq_true hi1
        have hd2 : decide ((k : Int) < (t.size : Int)) = true := decide_eq_true hi2
        have hd3 : decide (k < s.size) = true := decide_eq_true h1
        have hd4 : decide (k < t.size) = true := decide_eq_true h2
        by_cases he : s[k] = t[k]
        · have hq : ((s[k].toNat : Int) == (t[k].toNat : Int)) = true := by rw [he]; simp
          have HN : Hid (com ((tx s).drop (k + 1)) ((tx t).drop (k + 1)) + (k + 1) = com (tx s) (tx t)) := Lib.hid (by rw [← HE.out, tx_drop h1, tx_drop h2, he, com_cons, if_pos rfl]; omega)
          clear he
          go_wp2
          go_quiet (fail)
          go_wp2
          go_roundw
          case rel => exact ⟨k + 1, q + nq, by omega, by omega, by go_num, HN, by simp⟩
          case measure => simp [intOf]; omega
        · have hq : ((s[k].toNat : Int) == (t[k].toNat : Int)) = false := by
            simp only [beq_eq_false_iff_ne, ne_eq]
            intro e
            exact he (UInt8.toNat_inj.1 (by omega))
          have HR : Hid (com (tx s) (tx t) = k) := Lib.hid (by rw [← HE.out, tx_drop h1, tx_drop h2, com_cons, if_neg he]; omega)
          clear he
          go_wp2
          go_quiet (fail)
          go_wp2
          go_ret
          exact ⟨ret_num (by rw [HR.out]), ⟨_, by first | rfl | (simp; rfl)⟩⟩
      · have hd1 : decide ((k : Int) < (s.size : Int)) = true := decide_eq_true (by omega)
        have hd2 : decide ((k : Int) < (t.size : Int)) = false := decide_eq_false (by omega)
        have hd3 : decide (k < s.size) = true := decide_eq_true h1
        have hd4 : decide (k < t.size) = false := decide_eq_false h2
        have HR : Hid (com (tx s) (tx t) = k) := Lib.hid (by rw [← HE.out, tx_end (s := t) (by omega), com_nil]; omega)
        go_wp2
        go_quiet (fail)
        go_wp2
        go_ret
        exact ⟨ret_num (by rw [HR.out]), ⟨_, by first | rfl | (simp; rfl)⟩⟩
    · have hd1 : decide ((k : Int) < (s.size : Int)) = false := decide_eq_false (by omega)
      have hd3 : decide (k < s.size) = false := decide_eq_false h1
      have HR : Hid (com (tx s) (tx t) = k) := Lib.hid (by rw [← HE.out, tx_end (s := s) (by omega), com_nil']; omega)
      go_wp2
      go_quiet (fail)
      go_wp2
      go_ret
      exact ⟨ret_num (by rw [HR.out]), ⟨_, by first | rfl | (simp; rfl)⟩⟩

end Go.Proofs.Ytibdfhhbkbncgaa
