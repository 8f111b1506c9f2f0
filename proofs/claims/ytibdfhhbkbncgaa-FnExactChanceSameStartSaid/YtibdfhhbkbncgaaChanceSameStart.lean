/-
  The chance that two words have the same start: the reference and the program answer the same.
-/
import Derived.Test.YtibdfhhbkbncgaaSsS
import Derived.Test.YtibdfhhbkbncgaaSsI
namespace Go.Proofs.Ytibdfhhbkbncgaa
open Go.RowKit
set_option linter.unusedVariables false
set_option linter.unusedSimpArgs false

theorem agreeChanceSameStart (t : List Nd) (n c : Nat) (x0 : Int) (hn : n ≤ 1048576) (hx0 : -9223372036854775808 ≤ x0 ∧ x0 ≤ 9223372036854775807) : ∃ (x : Nat × Nat) (ok : Bool),
    (∀ (W : World) (a : Option Addr), Nds W.heap.size W a n c t → Calls Try.prog 17 #[.agg #[.slice a n c], .int .i64 x0] W fun e w' => e = .returned (.tuple #[fv x, .bool ok]) ∧ Below W.heap.size W w') ∧
    (∀ (W : World) (a : Option Addr), Nds W.heap.size W a n c t → Calls Try.prog 18 #[.agg #[.slice a n c], .int .i64 x0] W fun e w' => e = .returned (.tuple #[fv x, .bool ok]) ∧ Below W.heap.size W w') := by
  by_cases hg : potB t = true ∧ 0 ≤ x0 ∧ x0 ≤ 12
  · refine ⟨_, true, fun W a h => ?_, fun W a h => implSame_any t n c x0 _ true ⟨fun _ => hg, fun _ => rfl⟩ (fun _ => rfl) (fun e => (by cases e)) W a h⟩
    obtain ⟨hp, h0, h1⟩ := hg
    obtain ⟨⟨ps, hv⟩, _⟩ := potB_yes hp
    obtain ⟨i, rfl⟩ : ∃ i : Nat, x0 = i := ⟨x0.toNat, by omega⟩
    exact specSame_yes t ps n c i hn hv hp (by omega) _ (by rw [Int.toNat_natCast]) W a h
  · exact ⟨(0, 0), false, fun W a h => specSame_no t n c x0 hn hg W a h, fun W a h => implSame_any t n c x0 _ false ⟨fun e => (by cases e), fun h => absurd h hg⟩ (fun e => (by cases e)) (fun _ => rfl) W a h⟩

end Go.Proofs.Ytibdfhhbkbncgaa
