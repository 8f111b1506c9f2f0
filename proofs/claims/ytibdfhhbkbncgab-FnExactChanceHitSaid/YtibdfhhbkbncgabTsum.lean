/-
  The sum of what is told of texts.
-/
import Derived.Test.YtibdfhhbkbncgabTxt
namespace Go.Proofs.Ytibdfhhbkbncgab
set_option linter.unusedVariables false

/-- the sum of what is told -/
def tsum (tell : Txt → Nat) : List Txt → Nat
  | [] => 0
  | x :: r => tsum tell r + tell x
theorem tsum_app (tell : Txt → Nat) : ∀ a b : List Txt, tsum tell (a ++ b) = tsum tell a + tsum tell b
  | [], b => by simp [tsum]
  | x :: a, b => by simp only [List.cons_append, tsum]; rw [tsum_app tell a b]; omega
theorem tsum_succ (tell : Txt → Nat) {xs : List Txt} {k : Nat} {x : Txt} (h : xs[k]? = some x) : tsum tell (xs.take (k + 1)) = tsum tell (xs.take k) + tell x := by
  obtain ⟨hk, e⟩ := List.getElem?_eq_some_iff.1 h
  rw [List.take_succ_eq_append_getElem hk, tsum_app, e]
  simp [tsum]

theorem tsum_le (tell : Txt → Nat) (b : Nat) : ∀ {xs : List Txt}, (∀ x ∈ xs, tell x ≤ b) → tsum tell xs ≤ b * xs.length
  | [], _ => Nat.zero_le _
  | x :: r, h => by
    have h1 := tsum_le tell b (xs := r) (fun y hy => h y (List.mem_cons_of_mem _ hy))
    have h2 := h x List.mem_cons_self
    simp only [tsum, List.length_cons, Nat.mul_add, Nat.mul_one]
    omega
theorem tsum_congr {f g : Txt → Nat} : ∀ {xs : List Txt}, (∀ x ∈ xs, f x = g x) → tsum f xs = tsum g xs
  | [], _ => rfl
  | x :: r, h => by
    simp only [tsum]
    rw [tsum_congr (xs := r) (fun y hy => h y (List.mem_cons_of_mem _ hy)), h x List.mem_cons_self]
theorem tsum_add (f g : Txt → Nat) : ∀ xs : List Txt, tsum (fun x => f x + g x) xs = tsum f xs + tsum g xs
  | [] => rfl
  | x :: r => by simp only [tsum]; rw [tsum_add f g r]; omega

end Go.Proofs.Ytibdfhhbkbncgab
