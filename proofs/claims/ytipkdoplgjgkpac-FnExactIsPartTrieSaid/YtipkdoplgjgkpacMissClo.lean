/-
  The closure that asks a set whether it lacks a word.
-/
import Derived.Test.YtipkdoplgjgkpacFill
namespace Go.Proofs.Ytipkdoplgjgkpac
open Go.RowKit
set_option linter.unusedVariables false

theorem zeroB (w : World) : (zeroValue 4).run Try.prog w = .ok (.bool false) w := by kernel_rfl

set_option maxRecDepth 1000000 in
set_option maxHeartbeats 1000000 in
theorem missClo_any (b k q0 : Nat) (ws : List Txt) (i : Int) (x : Txt) (hx : x.length ≤ maxLen) (w : World) (hS : SetIs w b k ws) (hbx : w.cell? ⟨q0, 0, none⟩ = some (.map (some b))) :
    Calls Try.prog 77 #[.int .i64 i, .string (bx x), .pointer (some ⟨q0, 0, none⟩)] w fun e w' => e = .returned (.bool (!decide (x ∈ ws))) ∧ Below w.heap.size w w' := by
  have hl := hS.look (zeroB w) x hx
  have HB : Hid (Below w.heap.size w w) := Lib.hid (Below.refl _ _)
  obtain ⟨v, hv⟩ : ∃ v, decide (x ∈ ws) = v := ⟨_, rfl⟩
  rw [hv] at hl ⊢
  clear hv hS
  go_enter Try.func77, Try.ntmps77
  go_wp2_with fail
  go_ret
  exact ⟨rfl, HB.out⟩

end Go.Proofs.Ytipkdoplgjgkpac
