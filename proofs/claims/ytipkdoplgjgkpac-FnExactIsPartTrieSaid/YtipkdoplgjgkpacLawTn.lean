/-
  What stays in the laws on functions of two tries that answer no trie.
-/
import Derived.Test.YtipkdoplgjgkpacIsTrie
import Derived.Test.YtipkdoplgjgkpacOwnTrie
import Derived.Test.YtipkdoplgjgkpacLawNds
namespace Go.Proofs.Ytipkdoplgjgkpac
open Go.RowKit
set_option linter.unusedVariables false

/-- one copy has been made -/
structure VA (W0 W : World) (g n : Nat) (t : List Nd) : Prop where
  bel : Below W0.heap.size W0 W
  nds : Nds W.heap.size W (some ⟨g, 0, none⟩) n n t

/-- two copies have been made -/
structure VB (W0 W : World) (g n : Nat) (t : List Nd) (g' k : Nat) (u : List Nd) : Prop where
  bel : Below W0.heap.size W0 W
  nds1 : Nds W.heap.size W (some ⟨g, 0, none⟩) n n t
  nds2 : Nds W.heap.size W (some ⟨g', 0, none⟩) k k u

/-- one copy lies in a variable -/
structure V1 (W0 W : World) (bA gA n : Nat) (t : List Nd) : Prop where
  bel : Below W0.heap.size W0 W
  boxA : W.cell? ⟨bA, 0, none⟩ = some (.slice (some ⟨gA, 0, none⟩) n n)
  lA : bA < W.heap.size
  ndsA : Nds W.heap.size W (some ⟨gA, 0, none⟩) n n t

/-- both copies lie in variables -/
structure V2 (W0 W : World) (bA gA n : Nat) (t : List Nd) (bB gB k : Nat) (u : List Nd) : Prop where
  bel : Below W0.heap.size W0 W
  boxA : W.cell? ⟨bA, 0, none⟩ = some (.slice (some ⟨gA, 0, none⟩) n n)
  boxB : W.cell? ⟨bB, 0, none⟩ = some (.slice (some ⟨gB, 0, none⟩) k k)
  lA : bA < W.heap.size
  lB : bB < W.heap.size
  ndsA : Nds W.heap.size W (some ⟨gA, 0, none⟩) n n t
  ndsB : Nds W.heap.size W (some ⟨gB, 0, none⟩) k k u

section
variable {W0 W W' : World} {g g' bA gA n bB gB k : Nat} {t u : List Nd}

theorem VA.mk' (hb : Below W0.heap.size W0 W) (hb' : Below W.heap.size W W') (hN : Nds W'.heap.size W' (some ⟨g, 0, none⟩) n n t) : VA W0 W' g n t := ⟨hb.trans (hb'.mono hb.size), hN⟩
theorem VB.mk' (h : VA W0 W g n t) (hb' : Below W.heap.size W W') (hN : Nds W'.heap.size W' (some ⟨g', 0, none⟩) k k u) : VB W0 W' g n t g' k u := ⟨h.bel.trans (hb'.mono h.bel.size), (h.nds.keep hb').mono hb'.size, hN⟩
theorem V1.mk' (hb : Below W0.heap.size W0 W) (hb' : Below W.heap.size W W') (hN : Nds W'.heap.size W' (some ⟨gA, 0, none⟩) n n t) : V1 W0 (W'.alloc (.cells #[.slice (some ⟨gA, 0, none⟩) n n] 30)) W'.heap.size gA n t :=
  ⟨(hb.trans (hb'.mono hb.size)).alloc (Nat.le_trans hb.size hb'.size) _, by simp, by simp, (hN.keep ((Below.refl _ _).alloc (Nat.le_refl _) _)).mono (by simp)⟩
theorem V1.keep (h : V1 W0 W bA gA n t) (hb : Below W.heap.size W W') : V1 W0 W' bA gA n t :=
  ⟨h.bel.trans (hb.mono h.bel.size), (hb.cell (p := ⟨bA, 0, none⟩) h.lA).trans h.boxA, Nat.lt_of_lt_of_le h.lA hb.size, (h.ndsA.keep hb).mono hb.size⟩
theorem V2.mk' (h : V1 W0 W bA gA n t) (hb' : Below W.heap.size W W') (hN : Nds W'.heap.size W' (some ⟨gB, 0, none⟩) k k u) : V2 W0 (W'.alloc (.cells #[.slice (some ⟨gB, 0, none⟩) k k] 30)) bA gA n t W'.heap.size gB k u := by
  have h1 := h.keep (hb'.alloc hb'.size (.cells #[.slice (some ⟨gB, 0, none⟩) k k] 30))
  exact ⟨h1.bel, h1.boxA, by simp, h1.lA, by simp, h1.ndsA, (hN.keep ((Below.refl _ _).alloc (Nat.le_refl _) _)).mono (by simp)⟩
theorem V2.keep (h : V2 W0 W bA gA n t bB gB k u) (hb : Below W.heap.size W W') : V2 W0 W' bA gA n t bB gB k u :=
  ⟨h.bel.trans (hb.mono h.bel.size), (hb.cell (p := ⟨bA, 0, none⟩) h.lA).trans h.boxA, (hb.cell (p := ⟨bB, 0, none⟩) h.lB).trans h.boxB, Nat.lt_of_lt_of_le h.lA hb.size, Nat.lt_of_lt_of_le h.lB hb.size, (h.ndsA.keep hb).mono hb.size, (h.ndsB.keep hb).mono hb.size⟩
end

end Go.Proofs.Ytipkdoplgjgkpac
