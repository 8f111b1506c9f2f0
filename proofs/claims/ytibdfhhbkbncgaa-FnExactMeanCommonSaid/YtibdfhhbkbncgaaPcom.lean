/-
  Pairs of texts and what they have in common: plain mathematics.
-/
import Derived.Test.YtibdfhhbkbncgaaComM
import Derived.Test.YtibdfhhbkbncgaaTsum
import Derived.Test.YtibdfhhbkbncgaaFr
namespace Go.Proofs.Ytibdfhhbkbncgaa
set_option linter.unusedVariables false
set_option linter.unusedSimpArgs false

/-- what the first k texts have in common, two by two -/
def pcom (ws : List Txt) : Nat → Nat
  | 0 => 0
  | k + 1 => pcom ws k + tsum (com (ws.getD k [])) (ws.take k)
theorem pcom_succ {ws : List Txt} {k : Nat} {x : Txt} (h : ws[k]? = some x) : pcom ws (k + 1) = pcom ws k + tsum (com x) (ws.take k) := by
  simp [pcom, List.getD, h]

/-- what one has in common with the others -/
def cmt (ws : List Txt) (x : Txt) : Nat := tsum (com x) ws - x.length

theorem tsum_ge {f : Txt → Nat} : ∀ {xs : List Txt} {x : Txt}, x ∈ xs → f x ≤ tsum f xs
  | [], _, h => by cases h
  | y :: r, x, h => by
    simp only [tsum]
    rcases List.mem_cons.1 h with e | e
    · rw [e]; omega
    · have := tsum_ge (f := f) e; omega
theorem cmt_add {ws : List Txt} {x : Txt} (h : x ∈ ws) : cmt ws x + x.length = tsum (com x) ws := by
  have h1 := tsum_ge (f := com x) h
  rw [com_self] at h1
  unfold cmt
  omega
theorem cmt_le {ws : List Txt} {x : Txt} (hx : x.length ≤ 12) : cmt ws x ≤ 12 * ws.length := by
  have h1 := tsum_le (com x) 12 (xs := ws) (fun y _ => Nat.le_trans (com_le x y).1 hx)
  unfold cmt
  omega

theorem com_twice (ws : List Txt) : ∀ k, k ≤ ws.length → tsum (fun x => tsum (com x) (ws.take k)) (ws.take k) = 2 * pcom ws k + tsum List.length (ws.take k)
  | 0, _ => by simp [tsum, pcom]
  | k + 1, hk => by
    have ih := com_twice ws k (by omega)
    obtain ⟨x, hx⟩ : ∃ x, ws[k]? = some x := ⟨_, List.getElem?_eq_getElem (by omega)⟩
    have e : ws.take (k + 1) = ws.take k ++ [x] := by
      obtain ⟨h1, h2⟩ := List.getElem?_eq_some_iff.1 hx
      rw [List.take_succ_eq_append_getElem h1, h2]
    rw [pcom_succ hx, tsum_succ List.length hx, tsum_succ _ hx]
    have e1 : tsum (fun y => tsum (com y) (ws.take (k + 1))) (ws.take k) = tsum (fun y => tsum (com y) (ws.take k)) (ws.take k) + tsum (com x) (ws.take k) := by
      rw [← tsum_add]
      apply tsum_congr
      intro y _
      rw [tsum_succ (com y) hx, com_comm]
    rw [e1, ih, tsum_succ (com x) hx, com_self]
    omega

theorem cmt_sum (ws : List Txt) : tsum (cmt ws) ws = 2 * pcom ws ws.length := by
  have h := com_twice ws ws.length (Nat.le_refl _)
  rw [List.take_length] at h
  have e : tsum (fun x => tsum (com x) ws) ws = tsum (cmt ws) ws + tsum List.length ws := by
    rw [← tsum_add]
    apply tsum_congr
    intro x hx
    rw [cmt_add hx]
  omega

/-- how many pairs there are -/
def prs : Nat → Nat
  | 0 => 0
  | k + 1 => prs k + k
theorem prs_twice : ∀ k, 2 * prs k = k * (k - 1)
  | 0 => rfl
  | k + 1 => by
    have := prs_twice k
    simp only [prs, Nat.mul_add, this, Nat.add_sub_cancel]
    cases k with
    | zero => rfl
    | succ j => simp only [Nat.add_sub_cancel, Nat.add_mul, Nat.mul_add, Nat.mul_one, Nat.one_mul]; omega
theorem prs_pos : ∀ k, 2 ≤ k → 0 < prs k
  | 0, h => by omega
  | 1, h => by omega
  | k + 2, _ => by simp only [prs]; omega
theorem prs_le : ∀ k, prs k ≤ k * k
  | 0 => Nat.le_refl _
  | k + 1 => by
    have := prs_le k
    simp only [prs, Nat.add_mul, Nat.mul_add, Nat.mul_one, Nat.one_mul]
    omega
theorem pcom_le (ws : List Txt) (h : ∀ x ∈ ws, x.length ≤ 12) : ∀ k, k ≤ ws.length → pcom ws k ≤ 12 * prs k
  | 0, _ => Nat.le_refl _
  | k + 1, hk => by
    have ih := pcom_le ws h k (by omega)
    obtain ⟨x, hx⟩ : ∃ x, ws[k]? = some x := ⟨_, List.getElem?_eq_getElem (by omega)⟩
    rw [pcom_succ hx]
    have hx12 := h x (List.mem_of_getElem? hx)
    have h1 := tsum_le (com x) 12 (xs := ws.take k) (fun y _ => Nat.le_trans (com_le x y).1 hx12)
    rw [List.length_take, Nat.min_eq_left (by omega)] at h1
    simp only [prs]
    omega

/-- both ways to the mean -/
theorem mean_pairs (ws : List Txt) (m : Nat) (hm : ws.length = m) (h2 : 2 ≤ m) : fra (fra (tsum (cmt ws) ws) m).1 ((fra (tsum (cmt ws) ws) m).2 * (m - 1)) = fra (pcom ws m) (prs m) := by
  rw [fra_by (by omega) (by omega), cmt_sum, hm, ← prs_twice, Nat.mul_comm 2 (pcom ws m), Nat.mul_comm 2 (prs m)]
  exact fra_up (prs_pos m h2) (by omega)

end Go.Proofs.Ytibdfhhbkbncgaa
