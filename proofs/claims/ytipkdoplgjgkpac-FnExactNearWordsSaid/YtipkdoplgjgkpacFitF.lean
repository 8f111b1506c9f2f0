/-
  The words of a list that are wanted, told so far.
-/
import Derived.Test.YtipkdoplgjgkpacOX
namespace Go.Proofs.Ytipkdoplgjgkpac.cap
open Go.RowKit
set_option linter.unusedVariables false

theorem filter_yes {ws : List Txt} {f : Txt → Bool} {k : Nat} {x : Txt} (h : ws[k]? = some x) (hf : f x = true) : (ws.take (k + 1)).filter f = (ws.take k).filter f ++ [x] := by
  rw [List.take_add_one, h, List.filter_append]
  simp [hf]
theorem filter_no {ws : List Txt} {f : Txt → Bool} {k : Nat} {x : Txt} (h : ws[k]? = some x) (hf : f x = false) : (ws.take (k + 1)).filter f = (ws.take k).filter f := by
  rw [List.take_add_one, h, List.filter_append]
  simp [hf]
theorem filter_le (ws : List Txt) (f : Txt → Bool) (k : Nat) (h : k ≤ ws.length) : ((ws.take k).filter f).length ≤ k := by
  have h1 := List.length_filter_le f (ws.take k)
  rw [List.length_take] at h1
  omega

theorem lit_ownS {W : World} {o : Obj} : ((W.alloc o).alloc (.cells #[] 9)).ownsRow (W.heap.size + 1) 9 1 (.slice (some ⟨W.heap.size + 1, 0, none⟩) 0 0) 0 [] := by
  have := World.ownsRow_lit (base := W.heap.size + 1) (e := 9) (size := 1) (W.alloc o) #[] 0 (by simp) (by unfold maxLen; omega) rfl
  simpa using this

end Go.Proofs.Ytipkdoplgjgkpac.cap
