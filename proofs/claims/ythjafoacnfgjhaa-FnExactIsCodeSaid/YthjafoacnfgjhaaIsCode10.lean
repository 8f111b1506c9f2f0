/-
  IsCode: both functions answer the same.
-/
import Derived.Test.YthjafoacnfgjhaaCode10
namespace Go.Proofs.Ythjafoacnfgjhaa
open Go.RowKit
set_option linter.unusedVariables false

theorem specIsCode_any (B : Nat) (a : Option Addr) (n c : Nat) (ss : List ByteArray) (w : World) (hB : B ≤ w.heap.size) (h : Strs B w a n c ss) :
    Calls Try.prog 10 #[.slice a n c] w fun e w' => e = .returned (.bool (cdB (txl ss))) ∧ Below w.heap.size w w' := by
  have cA := Lib.hid (l10Code_any B a n c ss w hB h)
  clear h
  go_enter Try.func10, Try.ntmps10
  go_wp2_with fail
  refine cA.out.mono ?_
  rintro e w' ⟨rfl, hb⟩
  have HB := Lib.hid hb
  clear hb
  go_wp2_with fail
  go_ret
  exact ⟨rfl, HB.out⟩

theorem agreeIsCode (l : List ByteArray) (hl : l.length + (l.map (·.size)).sum ≤ 1048576) : ∃ (v : Bool),
    (∀ (W : World) (a : Option Addr) (n c : Nat), Strs W.heap.size W a n c l → Calls Try.prog 10 #[.slice a n c] W fun e w' => e = .returned (.bool v) ∧ Below W.heap.size W w') ∧
    (∀ (W : World) (a : Option Addr) (n c : Nat), Strs W.heap.size W a n c l → Calls Try.prog 12 #[.slice a n c] W fun e w' => e = .returned (.bool v) ∧ Below W.heap.size W w') :=
  ⟨cdB (txl l),
    fun W a n c h => specIsCode_any W.heap.size a n c l W (Nat.le_refl _) h,
    fun W a n c h => implIsCode_any W.heap.size a n c l W (Nat.le_refl _) h⟩

end Go.Proofs.Ythjafoacnfgjhaa
