/-
  When two texts are the same, as the walk asks it.
-/
import Derived.Lib.Strings
namespace Go.Proofs.YtlkajncgbnkkgaaDoor

theorem text_ne (a b : ByteArray) (h : a ≠ b) : (a.toList == b.toList) = false := by
  rw [Lib.toList_data, Lib.toList_data, beq_eq_false_iff_ne]
  exact fun e => h (by cases a; cases b; simp at e; simp [e])
theorem text_same (a b : ByteArray) (h : a = b) : (a.toList == b.toList) = true := by
  subst h
  simp

end Go.Proofs.YtlkajncgbnkkgaaDoor
