/-
  The words of a trie, as both the reference and the program tell them.
-/
import Derived.Test.YtmgieahachphmaaWordsOf
namespace Go.Proofs.Ytmgieahachphmaa
open Go.RowKit
set_option linter.unusedVariables false

/-- the contracts of the two lists of words under one name for the words and their number -/
theorem both_words (t : List Nd) (n : Nat) (hn : n ≤ 1048576) (ht : IsT t) : ∃ (ws : List Txt) (m : Nat), wordsOf t = ws ∧ ws.length = m ∧ m ≤ 40 ∧ (∀ x ∈ ws, x.length ≤ 12) ∧
    (∀ (W2 : World) (a : Option Addr) (B : Nat), B ≤ W2.heap.size → Nds B W2 a n n t → Calls Try.prog 53 #[.agg #[.slice a n n]] W2 fun e w' => ∃ a' c', e = .returned (.slice a' m c') ∧ Wds w'.heap.size w' a' m c' ws ∧ Below W2.heap.size W2 w') ∧
    (∀ (W2 : World) (a : Option Addr) (B : Nat), B ≤ W2.heap.size → Nds B W2 a n n t → Calls Try.prog 31 #[.agg #[.slice a n n]] W2 fun e w' => ∃ a' c', e = .returned (.tuple #[.slice a' m c', .bool true]) ∧ Wds w'.heap.size w' a' m c' ws ∧ Below W2.heap.size W2 w') := by
  refine ⟨wordsOf t, (wordsOf t).length, rfl, rfl, wordsOf_size t, wordsOf_short t, fun W2 a B hB hN => specWords_read B a n n t W2 hB hN hn ht, fun W2 a B hB hN => ?_⟩
  refine (implWords_any B a n n t W2 hB hN).mono ?_
  rw [trieB_iff.2 ht]
  rintro e w' ⟨v, rfl, hO, hb⟩
  obtain ⟨a', c', rfl, hW⟩ := own_wds hO (fun x hx => by have := wordsOf_short t x hx; omega)
  exact ⟨a', c', rfl, hW, hb⟩

end Go.Proofs.Ytmgieahachphmaa
