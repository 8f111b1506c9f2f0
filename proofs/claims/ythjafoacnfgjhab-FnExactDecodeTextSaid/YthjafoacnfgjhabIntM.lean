/-
  Numbers that are laid one after the other: plain facts.
-/
import Derived.Test.YthjafoacnfgjhabNumsB
namespace Go.Proofs.Ythjafoacnfgjhab
open Go.RowKit
set_option linter.unusedVariables false

/-- m numbers from k on -/
def mnums (k m : Nat) : List Nat := (List.range m).map fun j => k + j
theorem mnums_at {k m j : Nat} (h : j < m) : (mnums k m)[j]? = some (k + j) := by simp [mnums, h]
theorem mnums_len (k m : Nat) : (mnums k m).length = m := by simp [mnums]
def mkd (xs : List Value) (k j : Nat) : List Value := nums (mnums k j) ++ xs.drop j
theorem mkd_succ {xs : List Value} {k j : Nat} (h : j < xs.length) : (mkd xs k j).set j (.int .i64 ((k + j : Nat) : Int)) = mkd xs k (j + 1) := by
  unfold mkd
  rw [List.set_append_right _ _ (by simp [nums, mnums])]
  have e : j - (nums (mnums k j)).length = 0 := by simp [nums, mnums]
  rw [e, List.drop_eq_getElem_cons h, List.set_cons_zero]
  unfold mnums nums
  rw [List.range_succ]
  simp
theorem mkd_at {xs : List Value} {k j : Nat} (h : j < xs.length) : (mkd xs k j)[j]? = some xs[j] := by
  unfold mkd
  rw [List.getElem?_append_right (by simp [nums, mnums])]
  have e : j - (nums (mnums k j)).length = 0 := by simp [nums, mnums]
  rw [e, List.drop_eq_getElem_cons h]
  rfl

end Go.Proofs.Ythjafoacnfgjhab
