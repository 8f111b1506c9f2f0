/-
  The program's fill of lengths.
-/
import Derived.Test.YthjafoacnfgjhabFill10
import Derived.Test.YthjafoacnfgjhabMin10
namespace Go.Proofs.Ythjafoacnfgjhab
open Go.RowKit
set_option linter.unusedVariables false

theorem areLengths_any (B : Nat) (a : Option Addr) (n c : Nat) (l : List Int) (w : World) (hB : B ≤ w.heap.size) (h : Ints B w a n c l) :
    Calls Try.prog 79 #[.slice a n c] w fun e w' => e = .returned (.bool (nOk l 14)) ∧ w = w' := by
  have cA := Lib.hid (areOfSymbols_any B a n c l 14 w hB h)
  clear h
  go_enter Try.func79, Try.ntmps79
  go_wp2_with fail
  refine cA.out.mono ?_
  rintro e w' ⟨rfl, rfl⟩
  go_wp2_with fail
  go_ret
  exact ⟨rfl, rfl⟩

noncomputable def fillV (l : List Int) : Int := if nOk l 14 = true then fillZ l else 0

theorem implFillOf_any (B : Nat) (a : Option Addr) (n c : Nat) (l : List Int) (w : World) (hB : B ≤ w.heap.size) (h : Ints B w a n c l) :
    Calls Try.prog 62 #[.slice a n c] w fun e w' => e = .returned (.tuple #[.int .i64 (fillV l), .bool (nOk l 14)]) ∧ w = w' := by
  have cA := Lib.hid (areLengths_any B a n c l w hB h)
  by_cases ho : nOk l 14 = true
  · have cF := Lib.hid (fillOfAll_any B a n c l w hB h ho)
    have hv : fillV l = fillZ l := by unfold fillV; rw [if_pos ho]
    rw [ho] at cA ⊢
    rw [hv]
    clear h ho hv
    go_enter Try.func62, Try.ntmps62
    go_wp2_with (first | (go_at_call 79; refine cA.out.mono ?_; rintro e w' ⟨rfl, rfl⟩) | (go_at_call 80; refine cF.out.mono ?_; rintro e w' ⟨rfl, rfl⟩))
    go_ret2
    exact ⟨rfl, rfl⟩
  · have ho' : nOk l 14 = false := by simpa using ho
    have hv : fillV l = 0 := by unfold fillV; rw [if_neg ho]
    rw [ho'] at cA ⊢
    rw [hv]
    clear h ho hv ho'
    go_enter Try.func62, Try.ntmps62
    go_wp2_with (go_at_call 79; refine cA.out.mono ?_; rintro e w' ⟨rfl, rfl⟩)
    go_ret2
    exact ⟨rfl, rfl⟩

end Go.Proofs.Ythjafoacnfgjhab
