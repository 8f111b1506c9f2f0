/-
  What the branches of a pressed tree hold fits.
-/
import Derived.Test.YtoofpgehkihbcaaBrs
import Derived.Test.YtoofpgehkihbcaaPrT
namespace Go.Proofs.Ytoofpgehkihbcaa
set_option linter.unusedVariables false

theorem prw_fits {ws : List Txt} (hw : ∀ w ∈ ws, IsW w) (hn : ws.length ≤ 40) : FitsB (prw ws) := by
  intro d hd
  obtain ⟨i, hi⟩ := List.mem_iff_getElem?.1 hd
  have hT := told_prs hw
  have hl := (List.getElem?_eq_some_iff.1 hi).1
  have hf := prw_few ws
  rcases Nat.eq_zero_or_pos i with h0 | h0
  · subst h0
    have e1 := brs_at (en := fun x => decide (x ∈ ws)) (stl_sta ws).zero
    rw [show prw ws = brs (stl ws) (fun x => decide (x ∈ ws)) from rfl, e1, brOf_root] at hi
    obtain rfl := Option.some.inj hi
    exact ⟨by simp, by show (-9223372036854775808 : Int) ≤ -1; omega, by show (-1 : Int) ≤ 9223372036854775807; omega⟩
  · obtain ⟨h1, j, x, h2, h3, _⟩ := hT.step i d h0 hl hi
    have := h1.1
    exact ⟨by omega, by omega, by omega⟩

end Go.Proofs.Ytoofpgehkihbcaa
