/-
  The plain code of lengths: the reference's and the program's functions.
-/
import Derived.Test.YthjafoacnfgjhabDig10
import Derived.Test.YthjafoacnfgjhabFill10
namespace Go.Proofs.Ythjafoacnfgjhab
open Go.RowKit
set_option linter.unusedVariables false

/-- one symbol is looked at for one length -/
def stp (l : List Int) (L : Nat) (st : Nat × List Txt) (i : Nat) : Nat × List Txt := if l[i]? = some (L : Int) then (st.1 + 2 ^ (14 - L), st.2.set i (dgT st.1 L)) else st
def inn (l : List Int) (L i : Nat) (st : Nat × List Txt) : Nat × List Txt := (List.range i).foldl (stp l L) st
theorem inn_zero (l : List Int) (L : Nat) (st : Nat × List Txt) : inn l L 0 st = st := rfl
theorem inn_succ (l : List Int) (L i : Nat) (st : Nat × List Txt) : inn l L (i + 1) st = stp l L (inn l L i st) i := by simp [inn, List.range_succ]
theorem stp_yes {l : List Int} {L i : Nat} {st : Nat × List Txt} (h : l[i]? = some (L : Int)) : stp l L st i = (st.1 + 2 ^ (14 - L), st.2.set i (dgT st.1 L)) := by unfold stp; rw [if_pos h]
theorem stp_no {l : List Int} {L i : Nat} {st : Nat × List Txt} {z : Int} (h : l[i]? = some z) (hz : ¬ z = (L : Int)) : stp l L st i = st := by unfold stp; rw [if_neg (by rw [h]; simpa using hz)]
/-- all symbols are looked at for the lengths 1 to L -/
def outp (l : List Int) : Nat → Nat × List Txt
  | 0 => (0, List.replicate l.length [])
  | L + 1 => inn l (L + 1) l.length (outp l L)

theorem pow_le13 {L : Nat} (h : 1 ≤ L) : (2 : Nat) ^ (14 - L) ≤ 8192 := by
  have : (2 : Nat) ^ (14 - L) ≤ 2 ^ 13 := Nat.pow_le_pow_right (by decide) (by omega)
  simpa using this
theorem stp_ok (l : List Int) {L : Nat} (hL : 1 ≤ L) (st : Nat × List Txt) (i : Nat) : (stp l L st i).1 ≤ st.1 + 8192 ∧ (stp l L st i).2.length = st.2.length := by
  unfold stp
  have := pow_le13 hL
  split
  · exact ⟨by simp only; omega, by simp⟩
  · exact ⟨by omega, rfl⟩
theorem inn_ok (l : List Int) {L : Nat} (hL : 1 ≤ L) (st : Nat × List Txt) : ∀ i, (inn l L i st).1 ≤ st.1 + 8192 * i ∧ (inn l L i st).2.length = st.2.length
  | 0 => ⟨by simp [inn_zero], by rw [inn_zero]⟩
  | i + 1 => by
    have ih := inn_ok l hL st i
    have h := stp_ok l hL (inn l L i st) i
    rw [inn_succ]
    exact ⟨by omega, by rw [h.2, ih.2]⟩
theorem outp_ok (l : List Int) : ∀ L, (outp l L).1 ≤ 8192 * l.length * L ∧ (outp l L).2.length = l.length
  | 0 => ⟨by simp [outp], by simp [outp]⟩
  | L + 1 => by
    have ih := outp_ok l L
    have h := inn_ok l (show 1 ≤ L + 1 by omega) (outp l L) l.length
    show (inn l (L + 1) l.length (outp l L)).1 ≤ _ ∧ _ = _
    refine ⟨?_, by rw [← ih.2]; exact h.2⟩
    rw [Nat.mul_succ]
    omega
theorem at_ok {l : List Int} {L i : Nat} (hn : l.length ≤ 12) (hL : 1 ≤ L) (hL2 : L ≤ 14) (hi : i ≤ l.length) : (inn l L i (outp l (L - 1))).1 ≤ 1500000 := by
  have h1 := (outp_ok l (L - 1)).1
  have h2 := (inn_ok l hL (outp l (L - 1)) i).1
  have h3 : 8192 * l.length * (L - 1) ≤ 8192 * 12 * 13 := Nat.mul_le_mul (Nat.mul_le_mul_left _ hn) (by omega)
  omega
theorem set_short {ts : List Txt} {m : Nat} (h : ∀ x ∈ ts, x.length ≤ m) {i : Nat} {y : Txt} (hy : y.length ≤ m) : ∀ x ∈ ts.set i y, x.length ≤ m := by
  intro x hx
  rcases List.mem_or_eq_of_mem_set hx with h1 | rfl
  · exact h x h1
  · exact hy
theorem inn_short (l : List Int) {L : Nat} (hL : L ≤ 14) (st : Nat × List Txt) (h : ∀ x ∈ st.2, x.length ≤ 14) : ∀ i, ∀ x ∈ (inn l L i st).2, x.length ≤ 14
  | 0 => h
  | i + 1 => by
    rw [inn_succ]
    unfold stp
    split
    · exact set_short (inn_short l hL st h i) (by rw [dgT_len]; exact hL)
    · exact inn_short l hL st h i
theorem outp_short (l : List Int) : ∀ L, L ≤ 14 → ∀ x ∈ (outp l L).2, x.length ≤ 14
  | 0, _ => by
    intro x hx
    simp [outp] at hx
    rw [hx.2]
    simp
  | L + 1, h => inn_short l h (outp l L) (outp_short l L (by omega)) l.length

/-- texts as cells -/
def tcs (ts : List Txt) : List Value := ts.map fun x => Value.string (bx x)
theorem tcs_set (ts : List Txt) (i : Nat) (x : Txt) : (tcs ts).set i (.string (bx x)) = tcs (ts.set i x) := by simp [tcs, List.map_set]
theorem tcs_at {ts : List Txt} {i : Nat} (h : i < ts.length) : (tcs ts)[i]? = some (.string (bx ts[i])) := by simp [tcs, h]
theorem tcs_nil (n : Nat) : tcs (List.replicate n []) = List.replicate n (.string ByteArray.empty) := by simp [tcs]; exact .inr rfl

theorem div_bd {v d y : Nat} (hy : v / d = y) (hv : v ≤ 1500000) : y ≤ 1500000 := by rw [← hy]; exact Nat.le_trans (Nat.div_le_self _ _) hv
theorem plain_ar {v K p y : Nat} (hp : 2 ^ (14 - K) = p) (hy : v / 2 ^ (14 - K) = y) : (2 : Int) ^ (14 - K) = (p : Int) ∧ (v : Int) / (p : Int) = (y : Int) :=
  ⟨by rw [← hp]; simp, by rw [← hy, ← hp]; simp⟩
theorem pw_nat (L : Nat) : pw (L : Int) = ((2 ^ (14 - L) : Nat) : Int) := by unfold pw; simp

end Go.Proofs.Ythjafoacnfgjhab
