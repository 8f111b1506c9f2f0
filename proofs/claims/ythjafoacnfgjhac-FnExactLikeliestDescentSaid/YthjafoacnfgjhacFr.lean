/-
  Fractions without a common divisor: plain mathematics.
-/
import Derived.Test.YthjafoacnfgjhacTxt
namespace Go.Proofs.Ythjafoacnfgjhac
set_option linter.unusedVariables false
set_option linter.unusedSimpArgs false

/-- a fraction without a common divisor -/
def fra (a b : Nat) : Nat × Nat := (a / Nat.gcd a b, b / Nat.gcd a b)

theorem cop_eq {p q r s : Nat} (hq : 0 < q) (hs : 0 < s) (h1 : Nat.Coprime p q) (h2 : Nat.Coprime r s) (h : p * s = r * q) : p = r ∧ q = s := by
  have e1 : q ∣ s := h1.symm.dvd_of_dvd_mul_left (by rw [h]; exact Nat.dvd_mul_left _ _)
  have e2 : s ∣ q := h2.symm.dvd_of_dvd_mul_left (by rw [← h]; exact Nat.dvd_mul_left _ _)
  have e := Nat.dvd_antisymm e1 e2
  subst e
  exact ⟨Nat.eq_of_mul_eq_mul_right hq h, rfl⟩

theorem fra_den_pos {a b : Nat} (hb : 0 < b) : 0 < (fra a b).2 :=
  Nat.div_pos (Nat.le_of_dvd hb (Nat.gcd_dvd_right a b)) (Nat.gcd_pos_of_pos_right _ hb)
theorem fra_cop {a b : Nat} (hb : 0 < b) : Nat.Coprime (fra a b).1 (fra a b).2 :=
  Nat.coprime_div_gcd_div_gcd (Nat.gcd_pos_of_pos_right _ hb)
theorem fra_cross {a b : Nat} (hb : 0 < b) : (fra a b).1 * b = a * (fra a b).2 := by
  unfold fra
  have h1 := Nat.gcd_dvd_left a b
  have h2 := Nat.gcd_dvd_right a b
  obtain ⟨x, hx⟩ := h1
  obtain ⟨y, hy⟩ := h2
  have g := Nat.gcd_pos_of_pos_right a hb
  have e1 : a / Nat.gcd a b = x := Nat.div_eq_of_eq_mul_right g hx
  have e2 : b / Nat.gcd a b = y := Nat.div_eq_of_eq_mul_right g hy
  show a / Nat.gcd a b * b = a * (b / Nat.gcd a b)
  rw [e1, e2]
  calc x * b = x * (Nat.gcd a b * y) := by rw [← hy]
    _ = (Nat.gcd a b * x) * y := by rw [← Nat.mul_assoc, Nat.mul_comm x]
    _ = a * y := by rw [← hx]

theorem fra_eq {a b c d : Nat} (hb : 0 < b) (hd : 0 < d) : fra a b = fra c d ↔ a * d = c * b := by
  constructor
  · intro e
    have h1 := fra_cross (a := a) hb
    have h2 := fra_cross (a := c) hd
    rw [e] at h1
    have hp := fra_den_pos (a := c) hd
    generalize (fra c d).1 = p at *
    generalize (fra c d).2 = q at *
    apply Nat.eq_of_mul_eq_mul_right hp
    calc a * d * q = (a * q) * d := by rw [Nat.mul_assoc, Nat.mul_comm d, ← Nat.mul_assoc]
      _ = p * b * d := by rw [← h1]
      _ = p * d * b := by rw [Nat.mul_assoc, Nat.mul_comm b, ← Nat.mul_assoc]
      _ = c * q * b := by rw [h2]
      _ = c * b * q := by rw [Nat.mul_assoc, Nat.mul_comm q, ← Nat.mul_assoc]
  · intro e
    have h1 := fra_cross (a := a) hb
    have h2 := fra_cross (a := c) hd
    have hp := fra_den_pos (a := a) hb
    have hq := fra_den_pos (a := c) hd
    have k := cop_eq hp hq (fra_cop hb) (fra_cop hd) (by
      apply Nat.eq_of_mul_eq_mul_right (Nat.mul_pos hb hd)
      generalize (fra c d).1 = p at *
      generalize (fra c d).2 = q at *
      generalize (fra a b).1 = r at *
      generalize (fra a b).2 = s at *
      calc r * q * (b * d) = (r * b) * (q * d) := by simp only [Nat.mul_comm, Nat.mul_left_comm, Nat.mul_assoc]
        _ = (a * s) * (q * d) := by rw [h1]
        _ = (a * d) * (s * q) := by simp only [Nat.mul_comm, Nat.mul_left_comm, Nat.mul_assoc]
        _ = (c * b) * (s * q) := by rw [e]
        _ = (c * q) * (s * b) := by simp only [Nat.mul_comm, Nat.mul_left_comm, Nat.mul_assoc]
        _ = (p * d) * (s * b) := by rw [h2]
        _ = p * s * (b * d) := by simp only [Nat.mul_comm, Nat.mul_left_comm, Nat.mul_assoc])
    exact Prod.ext k.1 k.2

theorem fra_le1 (a b : Nat) : (fra a b).1 ≤ a := Nat.div_le_self _ _
theorem fra_le2 (a b : Nat) : (fra a b).2 ≤ b := Nat.div_le_self _ _
theorem fra_self {a b : Nat} (h : Nat.Coprime a b) : fra a b = (a, b) := by
  unfold fra
  unfold Nat.Coprime at h
  rw [h]; simp
theorem fra_one (b : Nat) : fra 1 b = (1, b) := fra_self (Nat.coprime_one_left b)
theorem fra_zero {b : Nat} (hb : 0 < b) : fra 0 b = (0, 1) := by
  unfold fra
  rw [Nat.gcd_zero_left, Nat.zero_div, Nat.div_self hb]
theorem fra_whole (a : Nat) : fra a 1 = (a, 1) := fra_self (Nat.coprime_one_right a)
/-- a fraction times a number, a fraction by a number -/
theorem fra_times {a b : Nat} (hb : 0 < b) (n : Nat) : fra ((fra a b).1 * n) (fra a b).2 = fra (a * n) b := by
  rw [fra_eq (fra_den_pos hb) hb]
  have h := fra_cross (a := a) hb
  calc (fra a b).1 * n * b = (fra a b).1 * b * n := Nat.mul_right_comm _ _ _
    _ = a * (fra a b).2 * n := by rw [h]
    _ = a * n * (fra a b).2 := Nat.mul_right_comm _ _ _
theorem fra_by {a b : Nat} (hb : 0 < b) {n : Nat} (hn : 0 < n) : fra (fra a b).1 ((fra a b).2 * n) = fra a (b * n) := by
  rw [fra_eq (Nat.mul_pos (fra_den_pos hb) hn) (Nat.mul_pos hb hn)]
  have h := fra_cross (a := a) hb
  calc (fra a b).1 * (b * n) = (fra a b).1 * b * n := (Nat.mul_assoc _ _ _).symm
    _ = a * (fra a b).2 * n := by rw [h]
    _ = a * ((fra a b).2 * n) := Nat.mul_assoc _ _ _
theorem fra_up {a b k : Nat} (hb : 0 < b) (hk : 0 < k) : fra (a * k) (b * k) = fra a b := by
  rw [fra_eq (Nat.mul_pos hb hk) hb]
  simp only [Nat.mul_comm, Nat.mul_left_comm]

/-- the least common multiple of two denominators, as it is taken -/
theorem lcm_parts {b d : Nat} (hb : 0 < b) (hd : 0 < d) : b * (d / Nat.gcd b d) = Nat.lcm b d ∧ d * (b / Nat.gcd b d) = Nat.lcm b d ∧ b / Nat.gcd b d * d = Nat.lcm b d ∧ Nat.lcm b d / d = b / Nat.gcd b d ∧ Nat.lcm b d / b = d / Nat.gcd b d ∧ 0 < Nat.lcm b d := by
  have h1 : b * (d / Nat.gcd b d) = Nat.lcm b d := by
    unfold Nat.lcm
    rw [Nat.mul_div_assoc _ (Nat.gcd_dvd_right b d)]
  have h2 : b / Nat.gcd b d * d = Nat.lcm b d := by
    unfold Nat.lcm
    rw [Nat.mul_comm b d, Nat.mul_div_assoc _ (Nat.gcd_dvd_left b d), Nat.mul_comm]
  refine ⟨h1, by rw [Nat.mul_comm]; exact h2, h2, ?_, ?_, Nat.lcm_pos hb hd⟩
  · rw [← h2, Nat.mul_div_cancel _ hd]
  · rw [← h1, Nat.mul_comm, Nat.mul_div_cancel _ hb]

/-- the sum of two fractions -/
def fadd (p q : Nat × Nat) : Nat × Nat := fra (p.1 * q.2 + q.1 * p.2) (p.2 * q.2)
theorem fadd_lcm {p q : Nat × Nat} (hp : 0 < p.2) (hq : 0 < q.2) : fra (p.1 * (q.2 / Nat.gcd p.2 q.2) + q.1 * (p.2 / Nat.gcd p.2 q.2)) (Nat.lcm p.2 q.2) = fadd p q := by
  obtain ⟨h1, h2, h3, h4, h5, h6⟩ := lcm_parts hp hq
  have hg := Nat.gcd_pos_of_pos_right p.2 hq
  unfold fadd
  rw [← fra_up (k := Nat.gcd p.2 q.2) h6 hg]
  have e1 : q.2 / Nat.gcd p.2 q.2 * Nat.gcd p.2 q.2 = q.2 := Nat.div_mul_cancel (Nat.gcd_dvd_right _ _)
  have e2 : p.2 / Nat.gcd p.2 q.2 * Nat.gcd p.2 q.2 = p.2 := Nat.div_mul_cancel (Nat.gcd_dvd_left _ _)
  rw [← h1, Nat.add_mul]
  simp only [Nat.mul_assoc]
  rw [e1, e2]
theorem fadd_fra {a b c d : Nat} (hb : 0 < b) (hd : 0 < d) : fadd (fra a b) (fra c d) = fra (a * d + c * b) (b * d) := by
  unfold fadd
  have p1 := fra_den_pos (a := a) hb
  have p2 := fra_den_pos (a := c) hd
  rw [fra_eq (Nat.mul_pos p1 p2) (Nat.mul_pos hb hd)]
  have h1 := fra_cross (a := a) hb
  have h2 := fra_cross (a := c) hd
  generalize (fra a b).1 = r at *
  generalize (fra a b).2 = s at *
  generalize (fra c d).1 = p at *
  generalize (fra c d).2 = q at *
  rw [Nat.add_mul, Nat.add_mul]
  have x1 : r * q * (b * d) = a * d * (s * q) := by
    calc r * q * (b * d) = (r * b) * (q * d) := by simp only [Nat.mul_comm, Nat.mul_left_comm, Nat.mul_assoc]
      _ = (a * s) * (q * d) := by rw [h1]
      _ = a * d * (s * q) := by simp only [Nat.mul_comm, Nat.mul_left_comm, Nat.mul_assoc]
  have x2 : p * s * (b * d) = c * b * (s * q) := by
    calc p * s * (b * d) = (p * d) * (s * b) := by simp only [Nat.mul_comm, Nat.mul_left_comm, Nat.mul_assoc]
      _ = (c * q) * (s * b) := by rw [h2]
      _ = c * b * (s * q) := by simp only [Nat.mul_comm, Nat.mul_left_comm, Nat.mul_assoc]
  rw [x1, x2]
theorem lcm_le_of {b d m : Nat} (hm : 0 < m) (h1 : b ∣ m) (h2 : d ∣ m) : Nat.lcm b d ≤ m := Nat.le_of_dvd hm (Nat.lcm_dvd h1 h2)
theorem fra_den_dvd (a b : Nat) : (fra a b).2 ∣ b := Nat.div_dvd_of_dvd (Nat.gcd_dvd_right a b)

end Go.Proofs.Ythjafoacnfgjhac
