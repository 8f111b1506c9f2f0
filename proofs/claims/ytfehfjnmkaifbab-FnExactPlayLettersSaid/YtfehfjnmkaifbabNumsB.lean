/-
  Lists of numbers as cells.
-/
import Derived.Test.YtfehfjnmkaifbabInfoI
import Derived.Test.YtfehfjnmkaifbabBas
namespace Go.Proofs.Ytfehfjnmkaifbab
open Go.RowKit
set_option linter.unusedVariables false

theorem nums_len (l : List Nat) : (nums l).length = l.length := by simp [nums]
theorem nums_at {l : List Nat} {k j : Nat} (h : l[k]? = some j) : (nums l)[k]? = some (.int .i64 (j : Int)) := by simp [nums, h]
theorem nums_app (l m : List Nat) : nums (l ++ m) = nums l ++ nums m := by simp [nums]
theorem nums_one (l : List Nat) : ∀ u ∈ nums l, u.oneCell' = true := by
  intro u hu
  unfold nums at hu
  obtain ⟨j, _, rfl⟩ := List.mem_map.1 hu
  rfl

theorem own_nums {base : Nat} {w : World} {m : Nat} {v : Value} {xs : List Value} (h : w.ownsRow base 3 1 v m xs) : ∃ a c, v = .slice a m c ∧ Sl w.heap.size w a m c xs := by
  obtain ⟨a, c, rfl⟩ := own_slice h
  exact ⟨a, c, rfl, Sl.of_own h⟩

end Go.Proofs.Ytfehfjnmkaifbab
