/-
  What is a letter: the program's functions.
-/
import Derived.Test.YtfehfjnmkaifbabWordM
namespace Go.Proofs.Ytfehfjnmkaifbab
open Go.RowKit
set_option linter.unusedVariables false

theorem iter_below {B : Nat} {w : World} (hB : B ≤ w.heap.size) (s : ByteArray) (p : Nat) : Below B w (w.iter s p) := (Below.refl _ w).alloc hB _

theorem isLetter_any (z : Int) (b : Bool) (h : b = decide (97 ≤ z ∧ z ≤ 122)) (w : World) :
    Calls Try.prog 96 #[.int .i32 z] w fun e w' => e = .returned (.bool b) ∧ w = w' := by
  by_cases h1 : z < 97
  · have hb : b = false := by rw [h, decide_eq_false_iff_not]; omega
    subst hb
    clear h
    go_enter Try.func96, Try.ntmps96
    go_wp2
    go_ret
    exact ⟨rfl, rfl⟩
  · by_cases h2 : 122 < z
    · have hb : b = false := by rw [h, decide_eq_false_iff_not]; omega
      subst hb
      clear h
      have h3 : ¬ z ≤ 122 := by omega
      go_enter Try.func96, Try.ntmps96
      go_wp2
      go_ret
      exact ⟨ret_bool (by first | (simp; done) | (simp; omega)), rfl⟩
    · have hb : b = true := by rw [h, decide_eq_true_eq]; omega
      subst hb
      clear h
      have h3 : z ≤ 122 := by omega
      go_enter Try.func96, Try.ntmps96
      go_wp2
      go_ret
      exact ⟨ret_bool (by first | (simp; done) | (simp; omega)), rfl⟩

set_option maxRecDepth 1000000 in
set_option maxHeartbeats 1000000 in
theorem areLetters_any (s : ByteArray) (w : World) (hs : s.size ≤ 9223372036854775807) :
    Calls Try.prog 78 #[.string s] w fun e w' => e = .returned (.bool (lowB s)) ∧ Below w.heap.size w w' := by
  go_enter Try.func78, Try.ntmps78
  go_wp2
  go_loopw [4] (fun c wr => ∃ k : Nat, k ≤ s.size ∧ wr = w.iter s k ∧ (∃ v : Value, c = v) ∧ Hid (LowTo s k)) (fun _ wr => s.size - wr.iterPos w.heap.size)
  case atStart => exact ⟨0, Nat.zero_le _, rfl, ⟨_, rfl⟩, Lib.hid fun j _ h => by omega⟩
  case round =>
    obtain ⟨k, hk, rfl, ⟨v, rfl⟩, HL⟩ := hrel
    by_cases hlt : k < s.size
    · by_cases hl : 97 ≤ s[k].toNat ∧ s[k].toNat ≤ 122
      · have hnx := fun ty => run_next_ascii (P := Try.prog) w s k ty hlt (by omega)
        have HN := Lib.hid (HL.out.succ hlt hl.1 hl.2)
        have cL := Lib.hid (fun W => isLetter_any (s[k].toNat : Int) true (by symm; rw [decide_eq_true_eq]; omega) W)
        clear hl
        go_wp2_with (first | (go_at_call 96; refine (cL.out _).mono ?_; rintro e w2 ⟨rfl, rfl⟩))
        go_roundw
        case rel => exact ⟨k + 1, by omega, rfl, ⟨_, rfl⟩, HN⟩
        case measure => simp; omega
      · have HF := Lib.hid (lowB_no hlt hl)
        by_cases h128 : s[k].toNat < 128
        · have hnx := fun ty => run_next_ascii (P := Try.prog) w s k ty hlt h128
          have cL := Lib.hid (fun W => isLetter_any (s[k].toNat : Int) false (by symm; rw [decide_eq_false_iff_not]; omega) W)
          clear hl
          go_wp2_with (first | (go_at_call 96; refine (cL.out _).mono ?_; rintro e w2 ⟨rfl, rfl⟩))
          go_ret
          exact ⟨ret_bool HF.out.symm, iter_below (Nat.le_refl _) _ _⟩
        · have hnx := fun ty => run_next_any (P := Try.prog) w s k ty hlt
          have hd := decode_high s k hlt (by omega)
          have hd2 := decode_le s k
          obtain ⟨q, hq⟩ : ∃ q, (Utf8.decode s k).1 = q := ⟨_, rfl⟩
          rw [hq] at hd hd2
          simp only [hq] at hnx
          clear hq
          have cL := Lib.hid (fun W => isLetter_any (q : Int) false (by symm; rw [decide_eq_false_iff_not]; omega) W)
          clear hl
          go_wp2_with (first | (go_at_call 96; refine (cL.out _).mono ?_; rintro e w2 ⟨rfl, rfl⟩))
          go_ret
          exact ⟨ret_bool HF.out.symm, iter_below (Nat.le_refl _) _ _⟩
    · have e : k = s.size := by omega
      subst e
      have hnx := fun ty => run_next_end (P := Try.prog) w s s.size ty (by omega)
      have HT := Lib.hid (lowB_yes HL.out)
      go_wp2
      go_ret
      exact ⟨ret_bool HT.out.symm, iter_below (Nat.le_refl _) _ _⟩

end Go.Proofs.Ytfehfjnmkaifbab
