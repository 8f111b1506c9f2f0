/-
  Words with the same first letters: plain mathematics.
-/
import Derived.Test.YtibdfhhbkbncgaaUnd
import Derived.Test.YtibdfhhbkbncgaaPlaceC
import Derived.Test.YtibdfhhbkbncgaaTsum
import Derived.Test.YtibdfhhbkbncgaaFr
namespace Go.Proofs.Ytibdfhhbkbncgaa
open Go.RowKit
set_option linter.unusedVariables false
set_option linter.unusedSimpArgs false

/-- the words with the same first letters as one, if it has so many -/
def sst (ws : List Txt) (n0 : Nat) (x : Txt) : Nat := if n0 ≤ x.length then (undr (x.take n0) ws).length else 0
/-- the same, told by a beginning -/
def ssq (ws : List Txt) (n0 : Nat) (p : Txt) : Nat := if p.length = n0 then (undr p ws).length * (undr p ws).length else 0

theorem sst_le (ws : List Txt) (n0 : Nat) (x : Txt) : sst ws n0 x ≤ ws.length := by
  unfold sst
  split
  · exact undr_le _ _
  · omega

theorem tsum_swap (F : Txt → Txt → Nat) (ws : List Txt) : ∀ ps : List Txt, tsum (fun p => tsum (fun w => F p w) ws) ps = tsum (fun w => tsum (fun p => F p w) ps) ws
  | [] => by
    simp only [tsum]
    induction ws with
    | nil => rfl
    | cons w r ih => simp only [tsum]; omega
  | p :: r => by
    simp only [tsum]
    rw [tsum_swap F ws r, ← tsum_add]
theorem tsum_zero {f : Txt → Nat} : ∀ {xs : List Txt}, (∀ x ∈ xs, f x = 0) → tsum f xs = 0
  | [], _ => rfl
  | x :: r, h => by
    simp only [tsum]
    rw [tsum_zero (xs := r) (fun y hy => h y (List.mem_cons_of_mem _ hy)), h x List.mem_cons_self]
theorem tsum_single {f : Txt → Nat} {q : Txt} : ∀ {ps : List Txt}, ps.Nodup → q ∈ ps → (∀ p ∈ ps, p ≠ q → f p = 0) → tsum f ps = f q
  | [], _, h, _ => by cases h
  | p :: r, hn, hq, hz => by
    simp only [tsum]
    obtain ⟨h1, h2⟩ := List.nodup_cons.1 hn
    by_cases e : p = q
    · subst e
      rw [tsum_zero (fun y hy => hz y (List.mem_cons_of_mem _ hy) (fun e => h1 (e ▸ hy)))]
      omega
    · have hq' : q ∈ r := (List.mem_cons.1 hq).resolve_left (fun h => e h.symm)
      rw [tsum_single h2 hq' (fun y hy => hz y (List.mem_cons_of_mem _ hy)), hz p List.mem_cons_self e]
      omega
theorem tsum_undr (p : Txt) (c : Nat) : ∀ ws : List Txt, tsum (fun w => if p <+: w then c else 0) ws = c * (undr p ws).length
  | [] => by simp [tsum, undr]
  | w :: r => by
    simp only [tsum]
    rw [tsum_undr p c r]
    unfold undr
    by_cases h : p <+: w
    · rw [if_pos h, List.filter_cons_of_pos (by simpa using h), List.length_cons, Nat.mul_add, Nat.mul_one]
    · rw [if_neg h, List.filter_cons_of_neg (by simpa using h)]
      omega
theorem asc_nodup9 {l : List Txt} (h : Asc l) : l.Nodup := List.Pairwise.imp (fun {a b} hab e => by rw [e, bef_irrefl] at hab; cases hab) h

/-- counted by nodes or by words -/
theorem sst_sum {t : List Nd} {ps : List Txt} (hv : Valid t ps) (n0 : Nat) : tsum (ssq (wds t ps) n0) ps = tsum (sst (wds t ps) n0) (wds t ps) := by
  have e1 : tsum (ssq (wds t ps) n0) ps = tsum (fun p => tsum (fun w => if p.length = n0 ∧ p <+: w then (undr p (wds t ps)).length else 0) (wds t ps)) ps := by
    apply tsum_congr
    intro p _
    unfold ssq
    by_cases h : p.length = n0
    · rw [if_pos h, ← tsum_undr p _ (wds t ps)]
      apply tsum_congr
      intro w _
      simp [h]
    · rw [if_neg h, tsum_zero]
      intro w _
      rw [if_neg (fun k => h k.1)]
  rw [e1, tsum_swap]
  apply tsum_congr
  intro w hw
  have hwp : w ∈ ps := (wds_sub t ps).subset hw
  unfold sst
  by_cases h : n0 ≤ w.length
  · have hl : (w.take n0).length = n0 := by rw [List.length_take]; omega
    have hq : w.take n0 ∈ ps := cap.pre_closed hv hwp (List.take_prefix _ _)
    rw [if_pos h, tsum_single (asc_nodup9 hv.tells.asc) hq, if_pos ⟨hl, List.take_prefix _ _⟩]
    intro p _ hne
    rw [if_neg]
    rintro ⟨k1, k2⟩
    apply hne
    rw [List.prefix_iff_eq_take.1 k2, k1]
  · rw [if_neg h, tsum_zero]
    intro p _
    rw [if_neg]
    rintro ⟨k1, k2⟩
    have := k2.length_le
    omega
theorem tsum_take_le (f : Txt → Nat) (xs : List Txt) (k : Nat) : tsum f (xs.take k) ≤ tsum f xs := by
  have := tsum_app f (xs.take k) (xs.drop k)
  rw [List.take_append_drop] at this
  omega

end Go.Proofs.Ytibdfhhbkbncgaa
