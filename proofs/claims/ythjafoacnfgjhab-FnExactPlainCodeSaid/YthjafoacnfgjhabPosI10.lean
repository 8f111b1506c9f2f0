/-
  Possible lengths: the program's test, and the reference's helper.
-/
import Derived.Test.YthjafoacnfgjhabFillI10
namespace Go.Proofs.Ythjafoacnfgjhab
open Go.RowKit
set_option linter.unusedVariables false

/-- lengths are valid and possible -/
noncomputable def posB (l : List Int) : Bool := nOk l 14 && decide (fillZ l ≤ 16384)

theorem implArePossible_any (B : Nat) (a : Option Addr) (n c : Nat) (l : List Int) (w : World) (hB : B ≤ w.heap.size) (h : Ints B w a n c l) :
    Calls Try.prog 35 #[.slice a n c] w fun e w' => e = .returned (.tuple #[.bool (posB l), .bool (nOk l 14)]) ∧ w = w' := by
  have cA0 := implFillOf_any B a n c l w hB h
  by_cases ho : nOk l 14 = true
  · have hv : fillV l = fillZ l := by unfold fillV; rw [if_pos ho]
    have hp : posB l = decide (fillZ l ≤ 16384) := by unfold posB; rw [ho]; simp
    rw [ho, hv] at cA0
    rw [ho, hp]
    obtain ⟨q, hq⟩ : ∃ q, fillZ l = q := ⟨_, rfl⟩
    rw [hq] at cA0 ⊢
    have cA := Lib.hid cA0
    clear h ho hv hp hq cA0
    by_cases hle : q ≤ 16384
    · have hd : decide (q ≤ 16384) = true := decide_eq_true hle
      go_enter Try.func35, Try.ntmps35
      go_wp2_with (go_at_call 62; refine cA.out.mono ?_; rintro e w' ⟨rfl, rfl⟩)
      go_ret2
      exact ⟨by first | rfl | (simp [hle]; done), rfl⟩
    · have hd : decide (q ≤ 16384) = false := decide_eq_false hle
      go_enter Try.func35, Try.ntmps35
      go_wp2_with (go_at_call 62; refine cA.out.mono ?_; rintro e w' ⟨rfl, rfl⟩)
      go_ret2
      exact ⟨by first | rfl | (simp [hle]; done), rfl⟩
  · have ho' : nOk l 14 = false := by simpa using ho
    have hp : posB l = false := by unfold posB; rw [ho']; simp
    rw [ho'] at cA0
    rw [ho', hp]
    have cA := Lib.hid cA0
    clear h ho hp ho' cA0
    go_enter Try.func35, Try.ntmps35
    go_wp2_with (go_at_call 62; refine cA.out.mono ?_; rintro e w' ⟨rfl, rfl⟩)
    go_ret2
    exact ⟨rfl, rfl⟩

theorem l10Possible_any (B : Nat) (a : Option Addr) (n c : Nat) (l : List Int) (w : World) (hB : B ≤ w.heap.size) (h : Ints B w a n c l) :
    Calls Try.prog 33 #[.slice a n c] w fun e w' => e = .returned (.bool (posB l)) ∧ w = w' := by
  have cA0 := l10Numbers_any B a n c l 14 w hB h
  by_cases ho : nOk l 14 = true
  · have cF0 := l10Fill_any B a n c l w hB h ho
    have hp : posB l = decide (fillZ l ≤ 16384) := by unfold posB; rw [ho]; simp
    rw [ho] at cA0
    rw [hp]
    obtain ⟨q, hq⟩ : ∃ q, fillZ l = q := ⟨_, rfl⟩
    rw [hq] at cF0 ⊢
    have cA := Lib.hid cA0
    have cF := Lib.hid cF0
    clear h ho hp hq cA0 cF0
    by_cases hle : q ≤ 16384
    all_goals
      go_enter Try.func33, Try.ntmps33
      go_wp2_with (first | (go_at_call 47; refine cA.out.mono ?_; rintro e w' ⟨rfl, rfl⟩) | (go_at_call 60; refine cF.out.mono ?_; rintro e w' ⟨rfl, rfl⟩))
      go_ret
      exact ⟨ret_bool (by simp [hle]), rfl⟩
  · have ho' : nOk l 14 = false := by simpa using ho
    have hp : posB l = false := by unfold posB; rw [ho']; simp
    rw [ho'] at cA0
    rw [hp]
    have cA := Lib.hid cA0
    clear h ho hp ho' cA0
    go_enter Try.func33, Try.ntmps33
    go_wp2_with (go_at_call 47; refine cA.out.mono ?_; rintro e w' ⟨rfl, rfl⟩)
    go_ret
    exact ⟨rfl, rfl⟩

end Go.Proofs.Ythjafoacnfgjhab
