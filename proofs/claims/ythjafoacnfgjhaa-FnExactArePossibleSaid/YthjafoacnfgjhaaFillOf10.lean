/-
  FillOf: both functions answer the same.
-/
import Derived.Test.YthjafoacnfgjhaaFill10
import Derived.Test.YthjafoacnfgjhaaMin10
namespace Go.Proofs.Ythjafoacnfgjhaa
open Go.RowKit
set_option linter.unusedVariables false

theorem areLengths_any (B : Nat) (a : Option Addr) (n c : Nat) (l : List Int) (w : World) (hB : B ≤ w.heap.size) (h : Ints B w a n c l) :
    Calls Try.prog 31 #[.slice a n c] w fun e w' => e = .returned (.bool (nOk l 14)) ∧ w = w' := by
  have cA := Lib.hid (areOfSymbols_any B a n c l 14 w hB h)
  clear h
  go_enter Try.func31, Try.ntmps31
  go_wp2_with fail
  refine cA.out.mono ?_
  rintro e w' ⟨rfl, rfl⟩
  go_wp2_with fail
  go_ret
  exact ⟨rfl, rfl⟩

noncomputable def fillV (l : List Int) : Int := if nOk l 14 = true then fillZ l else 0

theorem implFillOf_any (B : Nat) (a : Option Addr) (n c : Nat) (l : List Int) (w : World) (hB : B ≤ w.heap.size) (h : Ints B w a n c l) :
    Calls Try.prog 16 #[.slice a n c] w fun e w' => e = .returned (.tuple #[.int .i64 (fillV l), .bool (nOk l 14)]) ∧ w = w' := by
  have cA := Lib.hid (areLengths_any B a n c l w hB h)
  by_cases ho : nOk l 14 = true
  · have cF := Lib.hid (fillOfAll_any B a n c l w hB h ho)
    have hv : fillV l = fillZ l := by unfold fillV; rw [if_pos ho]
    rw [ho] at cA ⊢
    rw [hv]
    clear h ho hv
    go_enter Try.func16, Try.ntmps16
    go_wp2_with (first | (go_at_call 31; refine cA.out.mono ?_; rintro e w' ⟨rfl, rfl⟩) | (go_at_call 32; refine cF.out.mono ?_; rintro e w' ⟨rfl, rfl⟩))
    go_ret2
    exact ⟨rfl, rfl⟩
  · have ho' : nOk l 14 = false := by simpa using ho
    have hv : fillV l = 0 := by unfold fillV; rw [if_neg ho]
    rw [ho'] at cA ⊢
    rw [hv]
    clear h ho hv ho'
    go_enter Try.func16, Try.ntmps16
    go_wp2_with (go_at_call 31; refine cA.out.mono ?_; rintro e w' ⟨rfl, rfl⟩)
    go_ret2
    exact ⟨rfl, rfl⟩

theorem specFillOf_any (B : Nat) (a : Option Addr) (n c : Nat) (l : List Int) (w : World) (hB : B ≤ w.heap.size) (h : Ints B w a n c l) :
    Calls Try.prog 14 #[.slice a n c] w fun e w' => e = .returned (.tuple #[.int .i64 (fillV l), .bool (nOk l 14)]) ∧ w = w' := by
  have cA := Lib.hid (l10Numbers_any B a n c l 14 w hB h)
  by_cases ho : nOk l 14 = true
  · have cF := Lib.hid (l10Fill_any B a n c l w hB h ho)
    have hv : fillV l = fillZ l := by unfold fillV; rw [if_pos ho]
    rw [ho] at cA ⊢
    rw [hv]
    clear h ho hv
    go_enter Try.func14, Try.ntmps14
    go_wp2_with (first | (go_at_call 29; refine cA.out.mono ?_; rintro e w' ⟨rfl, rfl⟩) | (go_at_call 30; refine cF.out.mono ?_; rintro e w' ⟨rfl, rfl⟩))
    go_ret2
    exact ⟨rfl, rfl⟩
  · have ho' : nOk l 14 = false := by simpa using ho
    have hv : fillV l = 0 := by unfold fillV; rw [if_neg ho]
    rw [ho'] at cA ⊢
    rw [hv]
    clear h ho hv ho'
    go_enter Try.func14, Try.ntmps14
    go_wp2_with (go_at_call 29; refine cA.out.mono ?_; rintro e w' ⟨rfl, rfl⟩)
    go_ret2
    exact ⟨rfl, rfl⟩

theorem agreeFillOf (l : List Int) (hl : l.length ≤ 1048576) : ∃ (v : Int) (ok : Bool),
    (∀ (W : World) (a : Option Addr) (n c : Nat), Ints W.heap.size W a n c l → Calls Try.prog 14 #[.slice a n c] W fun e w' => e = .returned (.tuple #[.int .i64 v, .bool ok]) ∧ Below W.heap.size W w') ∧
    (∀ (W : World) (a : Option Addr) (n c : Nat), Ints W.heap.size W a n c l → Calls Try.prog 16 #[.slice a n c] W fun e w' => e = .returned (.tuple #[.int .i64 v, .bool ok]) ∧ Below W.heap.size W w') :=
  ⟨fillV l, nOk l 14,
    fun W a n c h => (specFillOf_any W.heap.size a n c l W (Nat.le_refl _) h).mono fun e w' ⟨h1, h2⟩ => ⟨h1, h2 ▸ Below.refl _ _⟩,
    fun W a n c h => (implFillOf_any W.heap.size a n c l W (Nat.le_refl _) h).mono fun e w' ⟨h1, h2⟩ => ⟨h1, h2 ▸ Below.refl _ _⟩⟩

end Go.Proofs.Ythjafoacnfgjhaa
