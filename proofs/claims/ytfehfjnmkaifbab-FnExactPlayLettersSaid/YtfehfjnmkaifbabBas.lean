/-
  Rows that a call owns: small laws that each text uses.
-/
import Derived.Test.YtfehfjnmkaifbabOwn
namespace Go.Proofs.Ytfehfjnmkaifbab
open Go.RowKit
set_option linter.unusedVariables false

theorem below_grown {w w' : World} {B : Nat} {v : Value} {base : Nat} {e : TypeId} {size n : Nat} {xs : List Value} (hown : w.ownsRow base e size v n xs) (hB : B ≤ base) (hBw : B ≤ w.heap.size) (h : w.grownBy w' v.ownBlock) : Below B w w' :=
  (Below.refl B w).grown h hBw (fun k hk => by
    rcases hown.2 with ⟨h', _⟩ | ⟨g', cap', cur, h', hb, _⟩
    · subst h'; simp [Value.ownBlock] at hk
    · subst h'; simp [Value.ownBlock] at hk; omega)

theorem Sl.of_own {w : World} {base : Nat} {e : TypeId} {n : Nat} {xs : List Value} {a : Option Addr} {c : Nat} (h : w.ownsRow base e 1 (.slice a n c) n xs) : Sl w.heap.size w a n c xs := by
  have hl : xs.length = n := by have := h.1; simpa using this
  rcases h.2 with ⟨h', h0⟩ | ⟨g, cap, cur, h', hb, hg, h1, h2, h3, h4⟩
  · simp only [Value.slice.injEq] at h'
    obtain ⟨rfl, rfl, rfl⟩ := h'
    exact ⟨hl, Nat.le_refl _, by omega, fun i u hu => by
      have := (List.getElem?_eq_some_iff.1 hu).1
      omega⟩
  · have h'' := h'
    simp only [Value.slice.injEq] at h''
    obtain ⟨rfl, _, rfl⟩ := h''
    refine ⟨hl, h1, by unfold maxLen at h2; omega, fun i u hu => ⟨g, 0, rfl, (Array.getElem?_eq_some_iff.1 hg).1, ?_⟩⟩
    have hi := (List.getElem?_eq_some_iff.1 hu).1
    rw [Nat.zero_add, h.cellAt i (by omega), hu]

theorem own_down {w : World} {base base' : Nat} {e : TypeId} {size n : Nat} {v : Value} {xs : List Value} (h : w.ownsRow base e size v n xs) (hb : base' ≤ base) : w.ownsRow base' e size v n xs := by
  refine ⟨h.1, ?_⟩
  rcases h.2 with h' | ⟨g, cap, cur, h', hg, h2⟩
  · exact .inl h'
  · exact .inr ⟨g, cap, cur, h', Nat.le_trans hb hg, h2⟩

theorem own_slice {base : Nat} {w : World} {e : TypeId} {size n : Nat} {v : Value} {xs : List Value} (h : w.ownsRow base e size v n xs) : ∃ a c, v = .slice a n c := by
  rcases h.2 with ⟨rfl, rfl⟩ | ⟨g, cap, cur, rfl, _⟩
  · exact ⟨_, _, rfl⟩
  · exact ⟨_, _, rfl⟩

theorem own_stay {base : Nat} {w w' : World} {e : TypeId} {size n : Nat} {v : Value} {xs : List Value} (h : w.ownsRow base e size v n xs) (hb : Below w.heap.size w w') : w'.ownsRow base e size v n xs := by
  refine ⟨h.1, ?_⟩
  rcases h.2 with h' | ⟨g, cap, cur, h', hg, h2, h3⟩
  · exact .inl h'
  · exact .inr ⟨g, cap, cur, h', hg, (hb.block g (Array.getElem?_eq_some_iff.1 h2).1).trans h2, h3⟩

theorem own_ge {base : Nat} {w : World} {e : TypeId} {size n : Nat} {v : Value} {xs : List Value} (h : w.ownsRow base e size v n xs) {g : Nat} (hg : v.ownBlock = some g) : base ≤ g ∧ g < w.heap.size := by
  rcases h.2 with ⟨h', _⟩ | ⟨g', cap', cur, h', hb, h2, _⟩
  · subst h'; simp [Value.ownBlock] at hg
  · subst h'
    have : g' = g := by simpa [Value.ownBlock] using hg
    subst this
    exact ⟨hb, (Array.getElem?_eq_some_iff.1 h2).1⟩

theorem made_rep {w : World} {base n : Nat} {e : TypeId} {z v : Value} (hz : z.cells = #[z]) (h : w.ownsRow base e 1 v n (madeCells z.cells (n * 1)).toList) : w.ownsRow base e 1 v n (List.replicate n z) := by
  have e9 : (madeCells z.cells (n * 1)).toList = List.replicate n z := by rw [Nat.mul_one, hz]; exact toList_madeCells_one _ _
  rwa [e9] at h

end Go.Proofs.Ytfehfjnmkaifbab
