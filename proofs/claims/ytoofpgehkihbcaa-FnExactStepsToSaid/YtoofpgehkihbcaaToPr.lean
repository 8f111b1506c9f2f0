/-
  The laws' copy of a pressed tree, read as branches.
-/
import Derived.Test.YtoofpgehkihbcaaEqP
namespace Go.Proofs.Ytoofpgehkihbcaa
open Go.RowKit
set_option linter.unusedVariables false

theorem toPressed_brs (B : Nat) (a : Option Addr) (n c : Nat) (t : List Br) (w : World) (hB : B ≤ w.heap.size) (h : Brs B w a n c t) (hn : n ≤ 1048576) :
    Calls Try.prog 11 #[.agg #[.slice a n c]] w fun e w' => ∃ g, e = .returned (.agg #[.slice (some ⟨g, 0, none⟩) n n]) ∧ Brs w'.heap.size w' (some ⟨g, 0, none⟩) n n t ∧ Below w.heap.size w w' :=
  (toPressed_any B a n c t w hB h hn).mono fun e w' ⟨g, h1, h2, h3⟩ => ⟨g, h1, own_brs h2 h.rng, h3⟩

/-- both are the same -/
theorem eq_pressed (a1 a2 : Option Addr) (n c d : Nat) (t : List Br) (w : World) (h1 : Brs w.heap.size w a1 n c t) (h2 : Brs w.heap.size w a2 n d t) :
    Calls Try.prog 13 #[.agg #[.slice a1 n c], .agg #[.slice a2 n d]] w fun e w' => e = .returned (.bool true) ∧ Below w.heap.size w w' :=
  eqPressed_any w.heap.size a1 a2 n c n d t t w (Nat.le_refl _) h1 h2 true (by simp)

end Go.Proofs.Ytoofpgehkihbcaa
