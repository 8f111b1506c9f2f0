/-
  The pairs of numbers of a table that are 1, the less one first, in order.
-/
import Derived.Test.YtpneflbnipefaabDp
import Derived.Test.YtpneflbnipefaabWordsN
namespace Go.Proofs.Ytpneflbnipefaab
set_option linter.unusedVariables false

def nbrRow (D : Nat → Nat → Nat) (i : Nat) : Nat → List Nat
  | 0 => []
  | m + 1 => nbrRow D i m ++ (if D i (i + 1 + m) = 1 then [i, i + 1 + m] else [])
def nbrs (D : Nat → Nat → Nat) (n : Nat) : Nat → List Nat
  | 0 => []
  | k + 1 => nbrs D n k ++ nbrRow D k (n - (k + 1))
theorem nbrRow_yes {D : Nat → Nat → Nat} {i m : Nat} (h : D i (i + 1 + m) = 1) : nbrRow D i (m + 1) = nbrRow D i m ++ [i, i + 1 + m] := by rw [nbrRow, if_pos h]
theorem nbrRow_no {D : Nat → Nat → Nat} {i m : Nat} (h : ¬ D i (i + 1 + m) = 1) : nbrRow D i (m + 1) = nbrRow D i m := by rw [nbrRow, if_neg h, List.append_nil]
theorem nbrRow_len (D : Nat → Nat → Nat) (i : Nat) : ∀ m, (nbrRow D i m).length ≤ 2 * m
  | 0 => by simp [nbrRow]
  | m + 1 => by have := nbrRow_len D i m; rw [nbrRow, List.length_append]; split <;> simp <;> omega
theorem nbrs_len (D : Nat → Nat → Nat) (n : Nat) : ∀ k, (nbrs D n k).length ≤ 2 * n * k
  | 0 => by simp [nbrs]
  | k + 1 => by
    have h1 := nbrs_len D n k
    have h2 := nbrRow_len D k (n - (k + 1))
    rw [nbrs, List.length_append, Nat.mul_succ]
    omega

/-- the distance of two words of a list -/
def dstOf (ws : List Txt) (i j : Nat) : Nat := lev (ws.getD i []) (ws.getD j []) (ws.getD i []).length (ws.getD j []).length
theorem dstOf_is {ws : List Txt} {i j : Nat} {x y : Txt} (hx : ws[i]? = some x) (hy : ws[j]? = some y) : dstOf ws i j = lev x y x.length y.length := by
  unfold dstOf
  rw [List.getD_eq_getElem?_getD, hx, List.getD_eq_getElem?_getD, hy]
  rfl

noncomputable def nbrL (t : List Nd) : List Nat := nbrs (dstOf (wordsOf t)) (wordsOf t).length (wordsOf t).length

end Go.Proofs.Ytpneflbnipefaab
