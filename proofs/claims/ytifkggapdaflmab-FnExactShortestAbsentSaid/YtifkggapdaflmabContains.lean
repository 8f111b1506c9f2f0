/-
  What it is to be contained: plain mathematics.
-/
import Derived.Test.YtifkggapdaflmabPrt2
import Derived.Lib.IndexMore
namespace Go.Proofs.Ytifkggapdaflmab
set_option linter.unusedVariables false

theorem index_nonneg : ∀ s t : Txt, 0 ≤ Lib.index s t ↔ t <:+: s
  | [], t => by
    unfold Lib.index
    cases t with
    | nil => simp
    | cons a t => simp
  | b :: l, t => by
    have ih := index_nonneg l t
    have hge := Lib.index_ge l t
    have e : Lib.index (b :: l) t = if t.isPrefixOf (b :: l) then 0 else if Lib.index l t == -1 then -1 else Lib.index l t + 1 := rfl
    rw [List.infix_cons_iff, ← ih, e]
    clear e
    by_cases h : t.isPrefixOf (b :: l) = true
    · rw [if_pos h]
      simp [List.isPrefixOf_iff_prefix.1 h]
    · rw [if_neg h]
      have hp : ¬ t <+: b :: l := fun k => h (List.isPrefixOf_iff_prefix.2 k)
      by_cases h1 : Lib.index l t = -1
      · rw [h1]; simp [hp]
      · have h2 : (Lib.index l t == -1) = false := by simpa using h1
        rw [h2]
        simp only [Bool.false_eq_true, if_false]
        constructor
        · intro k; exact .inr (by omega)
        · rintro (k | k)
          · exact absurd k hp
          · omega

theorem contains_iff {s t : Txt} : Lib.contains s t = true ↔ t <:+: s := by
  unfold Lib.contains
  rw [decide_eq_true_eq, index_nonneg]

theorem contains_plcs {s t : Txt} (ht : t ≠ []) : Lib.contains s t = decide (0 < (plcs s t).length) := by
  rw [Bool.eq_iff_iff, contains_iff, decide_eq_true_eq, plcs_pos_iff ht]

end Go.Proofs.Ytifkggapdaflmab
