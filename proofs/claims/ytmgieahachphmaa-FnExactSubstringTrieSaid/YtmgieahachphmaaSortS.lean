/-
  The library's sort and compact on a row of texts that the call owns.
-/
import Derived.Test.YtmgieahachphmaaEndsBy
import Derived.Test.YtmgieahachphmaaShelf
import Derived.Sort.OwnSorted
namespace Go.Proofs.Ytmgieahachphmaa
open Go.RowKit Go.Lib Go.Sort
set_option linter.unusedVariables false

theorem txs_enc (xs : List Txt) : txs xs = xs.map encStr := rfl

theorem sort_own {base g n c : Nat} {xs : List Txt} {w : World} (h : w.ownsRow base 9 1 (.slice (some ⟨g, 0, none⟩) n c) n (txs xs)) (hn : n ≤ 1000000) :
    Calls Try.prog 38 #[.slice (some ⟨g, 0, none⟩) n c] w fun e w' => e = .returned (.tuple #[]) ∧
      w'.ownsRow base 9 1 (.slice (some ⟨g, 0, none⟩) n c) n (txs (xs.mergeSort fun x y => decide (x ≤ y))) ∧ w.grownBy w' (some g) := by
  have hl : xs.length = n := by have := h.1; simpa [txs] using this
  subst hl
  rcases h.2 with ⟨h', _⟩ | ⟨g', cap, cur, h', hb, hg, h1, h2, h3, h4⟩
  · cases h'
  · cases h'
    have hH : Holds encStr w g 0 xs.toArray := holds_of_block hg (by have := h4; rw [Nat.mul_one] at this; exact this)
    refine (Try.slices_Sort_string g 0 c xs w hH (Array.getElem?_eq_some_iff.1 hg).1 (by omega)).mono ?_
    rintro e w' ⟨rfl, q, os, rfl⟩
    exact ⟨rfl, ownsRow_sorted (by simp) hb hg h1 h2 h3, grownBy_sorted _⟩

theorem grow_none (w : World) : grow w #[] = w := by simp

/-- the first of a row -/
theorem own_front {base g n c : Nat} {e : TypeId} {xs : List Value} {w : World} (h : w.ownsRow base e 1 (.slice (some ⟨g, 0, none⟩) n c) n xs) {k : Nat} (hk : k ≤ n) :
    w.ownsRow base e 1 (.slice (some ⟨g, 0, none⟩) k c) k (xs.take k) := by
  rcases h.2 with ⟨h', _⟩ | ⟨g', cap, cur, h', hb, hg, h1, h2, h3, h4⟩
  · cases h'
  · cases h'
    refine ⟨by have := h.1; simp; omega, .inr ⟨g, c, cur, rfl, hb, hg, by omega, h2, h3, ?_⟩⟩
    rw [← h4, List.take_take]
    congr 1
    omega

theorem compact_le (xs : List Txt) : (Lib.compact xs).length ≤ xs.length := by
  unfold Lib.compact Lib.compactUpTo
  rw [List.length_map]
  exact Nat.le_trans (List.length_filter_le _ _) (by simp)

theorem compact_own {base g n c : Nat} {xs : List Txt} {w : World} (h : w.ownsRow base 9 1 (.slice (some ⟨g, 0, none⟩) n c) n (txs xs)) (hn : n ≤ 1000000) :
    Calls Try.prog 39 #[.slice (some ⟨g, 0, none⟩) n c] w fun e w' => e = .returned (.slice (some ⟨g, 0, none⟩) (Lib.compact xs).length c) ∧
      w'.ownsRow base 9 1 (.slice (some ⟨g, 0, none⟩) (Lib.compact xs).length c) (Lib.compact xs).length (txs (Lib.compact xs)) ∧ w.grownBy w' (some g) := by
  have hl : xs.length = n := by have := h.1; simpa [txs] using this
  subst hl
  rcases h.2 with ⟨h', _⟩ | ⟨g', cap, cur, h', hb, hg, h1, h2, h3, h4⟩
  · cases h'
  · cases h'
    have hH : Holds encStr w g 0 xs.toArray := holds_of_block hg (by have := h4; rw [Nat.mul_one] at this; exact this)
    have hle := compact_le xs
    refine (Try.slices_Compact_string g 0 c xs w hH (by omega) h1).mono ?_
    rintro e w' ⟨rfl, q, rfl⟩
    have hz : (Lib.compact xs ++ List.replicate (xs.length - (Lib.compact xs).length) []).length = xs.length := by rw [List.length_append, List.length_replicate]; omega
    have ho := ownsRow_sorted (w := w) (n := q) (os := #[]) (base := base) (ss := xs) hz hb hg h1 h2 h3
    have hgr := grownBy_sorted (w := w) (g := g) (n := q) (os := #[]) (Lib.compact xs ++ List.replicate (xs.length - (Lib.compact xs).length) []).toArray
    rw [grow_none] at ho hgr
    refine ⟨rfl, ?_, hgr⟩
    have := own_front ho hle
    rw [List.map_append, List.take_append_of_le_length (by simp)] at this
    rw [List.take_of_length_le (by simp)] at this
    exact this

end Go.Proofs.Ytmgieahachphmaa
