/-
  How many letters two texts have in common at their beginnings: plain mathematics.
-/
import Derived.Test.YtibdfhhbkbncgaaTxt
namespace Go.Proofs.Ytibdfhhbkbncgaa
set_option linter.unusedVariables false

/-- how many letters two texts have in common at their beginnings -/
def com : Txt → Txt → Nat
  | a :: x, b :: y => if a = b then com x y + 1 else 0
  | _, _ => 0
theorem com_nil (x : Txt) : com x [] = 0 := by cases x <;> rfl
theorem com_nil' (x : Txt) : com [] x = 0 := by cases x <;> rfl
theorem com_cons (a b : UInt8) (x y : Txt) : com (a :: x) (b :: y) = if a = b then com x y + 1 else 0 := rfl
theorem com_le : ∀ x y : Txt, com x y ≤ x.length ∧ com x y ≤ y.length
  | [], y => by rw [com_nil']; simp
  | a :: x, [] => by rw [com_nil]; simp
  | a :: x, b :: y => by
    rw [com_cons]
    have := com_le x y
    split <;> simp <;> omega

theorem com_comm : ∀ x y : Txt, com x y = com y x
  | [], y => by rw [com_nil', com_nil]
  | a :: x, [] => by rw [com_nil', com_nil]
  | a :: x, b :: y => by
    rw [com_cons, com_cons, com_comm x y]
    by_cases h : a = b
    · rw [if_pos h, if_pos h.symm]
    · rw [if_neg h, if_neg (fun e => h e.symm)]
theorem com_self : ∀ x : Txt, com x x = x.length
  | [] => rfl
  | a :: x => by rw [com_cons, if_pos rfl, com_self x]; rfl

end Go.Proofs.Ytibdfhhbkbncgaa
