/-
  The chance that a random text begins with a text: plain mathematics.
-/
import Derived.Test.YtibdfhhbkbncgabTri
import Derived.Test.YtibdfhhbkbncgabFr
import Derived.Test.YtibdfhhbkbncgabSl
namespace Go.Proofs.Ytibdfhhbkbncgab
open Go.RowKit
set_option linter.unusedVariables false
set_option linter.unusedSimpArgs false

/-- the text is of the first k letters -/
def fst9 (k : Nat) (x : Txt) : Bool := x.all fun c => decide (c.toNat < k + 97)
/-- the chance that a random text of the first k letters begins with a text -/
def sch (k : Nat) (x : Txt) : Nat × Nat := if fst9 k x = true then (1, k ^ x.length) else (0, 1)

theorem fst9_app (k : Nat) (x y : Txt) : fst9 k (x ++ y) = (fst9 k x && fst9 k y) := by simp [fst9]
theorem fst9_one (k : Nat) (c : UInt8) : fst9 k [c] = decide (c.toNat < k + 97) := by simp [fst9]
theorem fst9_no {k : Nat} {x : Txt} {j : Nat} {c : UInt8} (h : x[j]? = some c) (hc : k + 97 ≤ c.toNat) : fst9 k x = false := by
  unfold fst9
  rw [List.all_eq_false]
  exact ⟨c, List.mem_of_getElem? h, by simp; omega⟩

theorem pow_bd {k j : Nat} (hk : k ≤ 26) (hj : j ≤ 12) : k ^ j ≤ 95428956661682176 :=
  Nat.le_trans (Nat.pow_le_pow_left hk j) (Nat.le_trans (Nat.pow_le_pow_right (by omega) hj) (by decide))
theorem pow_mul_bd {k j : Nat} (hk : k ≤ 26) (hj : j < 12) : k ^ j * k ≤ 95428956661682176 := by
  rw [← Nat.pow_succ]
  exact pow_bd hk hj

end Go.Proofs.Ytibdfhhbkbncgab
