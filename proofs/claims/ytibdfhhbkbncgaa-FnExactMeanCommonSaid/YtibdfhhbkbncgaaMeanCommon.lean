/-
  The mean number of letters that two words have in common: the reference and the program answer the same.
-/
import Derived.Test.YtibdfhhbkbncgaaMcS
import Derived.Test.YtibdfhhbkbncgaaMcI
namespace Go.Proofs.Ytibdfhhbkbncgaa
open Go.RowKit
set_option linter.unusedVariables false
set_option linter.unusedSimpArgs false

theorem agreeMeanCommon (t : List Nd) (n c : Nat) (hn : n ≤ 1048576) : ∃ (x : Nat × Nat) (ok : Bool),
    (∀ (W : World) (a : Option Addr), Nds W.heap.size W a n c t → Calls Try.prog 21 #[.agg #[.slice a n c]] W fun e w' => e = .returned (.tuple #[fv x, .bool ok]) ∧ Below W.heap.size W w') ∧
    (∀ (W : World) (a : Option Addr), Nds W.heap.size W a n c t → Calls Try.prog 22 #[.agg #[.slice a n c]] W fun e w' => e = .returned (.tuple #[fv x, .bool ok]) ∧ Below W.heap.size W w') := by
  by_cases hg : trieB t = true ∧ 2 ≤ (wordsOf t).length
  · exact ⟨_, true, fun W a h => specMeanCommon_yes t n c hn hg.1 hg.2 _ rfl W a h, fun W a h => implMeanCommon_any t n c _ true (by rw [hg.1]; simp [hg.2]) (fun _ => rfl) (fun e => (by cases e)) W a h⟩
  · refine ⟨(0, 0), false, fun W a h => specMeanCommon_no t n c hn hg W a h, fun W a h => implMeanCommon_any t n c _ false ?_ (fun e => (by cases e)) (fun _ => rfl) W a h⟩
    cases ht : trieB t with
    | false => rfl
    | true =>
      have : ¬ 2 ≤ (wordsOf t).length := fun h => hg ⟨ht, h⟩
      simp [this]

end Go.Proofs.Ytibdfhhbkbncgaa
