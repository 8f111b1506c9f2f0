/-
  The copy of a trie that came in.
-/
import Derived.Test.YtfehfjnmkaifbabEq
import Derived.Test.YtfehfjnmkaifbabOpenTrie
namespace Go.Proofs.Ytfehfjnmkaifbab
open Go.RowKit
set_option linter.unusedVariables false

theorem own_trie {base : Nat} {w : World} {n c : Nat} {a : Option Addr} {t : List Nd} (h : w.ownsRow base 66 3 (.slice a n c) n (ndc t)) (hx : Fits t) : Nds w.heap.size w a n c t := by
  obtain ⟨a', c', e, hN⟩ := own_nds h hx
  injection e with e1 _ e2
  subst e1 e2
  exact hN

/-- the copy of a trie that came in -/
theorem toTrie_nds (B : Nat) (a : Option Addr) (n c : Nat) (t : List Nd) (w : World) (hB : B ≤ w.heap.size) (h : Nds B w a n c t) (hn : n ≤ 1048576) :
    Calls Try.prog 11 #[.agg #[.slice a n c]] w fun e w' => ∃ g, e = .returned (.agg #[.slice (some ⟨g, 0, none⟩) n n]) ∧ Nds w'.heap.size w' (some ⟨g, 0, none⟩) n n t ∧ Below w.heap.size w w' :=
  (toTrie_any B a n c t w hB h hn).mono fun e w' ⟨g, h1, h2, h3⟩ => ⟨g, h1, own_trie h2 h.rng, h3⟩

end Go.Proofs.Ytfehfjnmkaifbab
