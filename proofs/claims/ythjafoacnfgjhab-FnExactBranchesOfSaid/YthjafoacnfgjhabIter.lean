/-
  A row that one owns and a string's iterator: they are different blocks.
-/
import Derived.Test.YthjafoacnfgjhabOwn
import Derived.Lib.OthersKept
namespace Go.Proofs.Ythjafoacnfgjhab
open Go.RowKit
set_option linter.unusedVariables false

theorem own_iter {base : Nat} {w : World} {e : TypeId} {size n : Nat} {v : Value} {xs : List Value} (h : w.ownsRow base e size v n xs) {k : Nat} {s : ByteArray} {p : Nat} (hk : w.heap[k]? = some (.stringIter s p)) : some k ≠ v.ownBlock := by
  rcases h.2 with ⟨rfl, _⟩ | ⟨g, cap, cur, rfl, _, hg, _⟩
  · simp [Value.ownBlock]
  · intro e'
    have : k = g := by simpa [Value.ownBlock] using e'
    subst this
    rw [hk] at hg
    cases hg

theorem own_iterAt {base : Nat} {w : World} {e : TypeId} {size n : Nat} {v : Value} {xs : List Value} (h : w.ownsRow base e size v n xs) {k : Nat} {s : ByteArray} {p q : Nat} (hk : w.heap[k]? = some (.stringIter s p)) : (w.iterAt k s q).ownsRow base e size v n xs := by
  have hne := own_iter h hk
  refine ⟨h.1, ?_⟩
  rcases h.2 with h' | ⟨g, cap, cur, rfl, hb, hg, h3⟩
  · exact .inl h'
  · refine .inr ⟨g, cap, cur, rfl, hb, ?_, h3⟩
    rw [Lib.iterAt_other w k g s q (fun e => hne (by simp [Value.ownBlock, e]))]
    exact hg

end Go.Proofs.Ythjafoacnfgjhab
