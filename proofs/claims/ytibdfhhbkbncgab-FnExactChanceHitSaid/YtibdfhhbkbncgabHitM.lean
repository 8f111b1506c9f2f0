/-
  Chances over one denominator: plain mathematics.
-/
import Derived.Test.YtibdfhhbkbncgabSch
import Derived.Test.YtibdfhhbkbncgabTsum
namespace Go.Proofs.Ytibdfhhbkbncgab
open Go.RowKit
set_option linter.unusedVariables false
set_option linter.unusedSimpArgs false

/-- what a word adds to the texts that are hit -/
def htw (k n : Nat) (x : Txt) : Nat := if x.length = n ∧ fst9 k x = true then 1 else 0

theorem frac_part {m K : Nat} (hK : 0 < K) {D : Nat} (hD : D = K) : (fra m K).1 * (D / (fra m K).2) = m := by
  subst hD
  have h1 := fra_cross (a := m) hK
  obtain ⟨z, hz⟩ := fra_den_dvd m D
  have hp := fra_den_pos (a := m) hK
  have e : D / (fra m D).2 = z := Nat.div_eq_of_eq_mul_right hp hz
  rw [e]
  apply Nat.eq_of_mul_eq_mul_left hp
  calc (fra m D).2 * ((fra m D).1 * z) = (fra m D).1 * ((fra m D).2 * z) := by rw [Nat.mul_left_comm]
    _ = (fra m D).1 * D := by rw [← hz]
    _ = m * (fra m D).2 := h1
    _ = (fra m D).2 * m := Nat.mul_comm _ _

/-- a chance more, over the same denominator -/
theorem frac_more {m a k n l : Nat} (hk : 1 ≤ k) (hl : l ≤ n) : fadd (fra m (k ^ n)) (fra a (k ^ l)) = fra (m + a * k ^ (n - l)) (k ^ n) := by
  have p1 : 0 < k ^ n := Nat.pow_pos (by omega)
  have p2 : 0 < k ^ l := Nat.pow_pos (by omega)
  rw [fadd_fra p1 p2]
  have e : k ^ n = k ^ (n - l) * k ^ l := by rw [← Nat.pow_add]; congr 1; omega
  have e2 : m * k ^ l + a * k ^ n = (m + a * k ^ (n - l)) * k ^ l := by
    rw [Nat.add_mul, Nat.mul_assoc a, ← e]
  rw [e2, fra_up p1 p2]

theorem sch_yes {k : Nat} {x : Txt} (h : fst9 k x = true) : sch k x = fra 1 (k ^ x.length) := by unfold sch; rw [if_pos h, fra_one]
theorem sch_no {k : Nat} {x : Txt} (hk : 1 ≤ k) (h : fst9 k x = false) : sch k x = fra 0 (k ^ x.length) := by
  unfold sch
  rw [if_neg (by rw [h]; simp), fra_zero (Nat.pow_pos (by omega))]
theorem sch_den {k : Nat} {x : Txt} (hk : 1 ≤ k) : 0 < (sch k x).2 ∧ (sch k x).2 ∣ k ^ x.length ∧ (sch k x).1 ≤ 1 := by
  unfold sch
  split
  · exact ⟨Nat.pow_pos (by omega), Nat.dvd_refl _, Nat.le_refl _⟩
  · exact ⟨by simp, Nat.one_dvd _, by simp⟩

/-- what a word of at most n letters adds -/
def addw (k n : Nat) (x : Txt) : Nat := if fst9 k x = true then k ^ (n - x.length) else 0
theorem sch_add {m k n : Nat} {x : Txt} (hk : 1 ≤ k) (hx : x.length ≤ n) : fadd (fra m (k ^ n)) (sch k x) = fra (m + addw k n x) (k ^ n) := by
  unfold addw
  cases h : fst9 k x with
  | true => rw [sch_yes h, frac_more hk hx]; simp
  | false => rw [sch_no hk h, frac_more hk hx]; simp
theorem sch_part {k n : Nat} {x : Txt} (hk : 1 ≤ k) (hx : x.length ≤ n) : (sch k x).1 * (k ^ n / (sch k x).2) ≤ k ^ n := by
  obtain ⟨h1, h2, h3⟩ := sch_den (x := x) hk
  calc (sch k x).1 * (k ^ n / (sch k x).2) ≤ 1 * (k ^ n / (sch k x).2) := Nat.mul_le_mul_right _ h3
    _ = k ^ n / (sch k x).2 := Nat.one_mul _
    _ ≤ k ^ n := Nat.div_le_self _ _
theorem addw_le {k n : Nat} {x : Txt} (hk : 1 ≤ k) : addw k n x ≤ k ^ n := by
  unfold addw
  split
  · exact Nat.pow_le_pow_right (by omega) (by omega)
  · exact Nat.zero_le _

end Go.Proofs.Ytibdfhhbkbncgab
