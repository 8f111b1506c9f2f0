/-
  The words of a list of nodes, and the reference's list of them.
-/
import Derived.Test.YthjafoacnfgjhacBel
namespace Go.Proofs.Ythjafoacnfgjhac
open Go.RowKit
set_option linter.unusedVariables false

theorem wds_short {t : List Nd} {ps : List Txt} (hv : Valid t ps) : ∀ x ∈ wds t ps, x.length ≤ 9223372036854775807 := fun x hx => by have := (hv.wordsW x hx).1; omega

/-- the words of a valid trie, none of another list -/
noncomputable def wordsOf (t : List Nd) : List Txt := by
  classical
  exact if h : IsT t then wds t h.choose else []

theorem wordsOf_eq {t : List Nd} {ps : List Txt} (h : Valid t ps) : wordsOf t = wds t ps := by
  have ht : IsT t := ⟨ps, h⟩
  unfold wordsOf
  rw [dif_pos ht, valid_uniq ht.choose_spec h]

theorem wordsOf_no {t : List Nd} (h : ¬ IsT t) : wordsOf t = [] := by
  unfold wordsOf
  rw [dif_neg h]

/-- the reference's words as a slice that can be read -/
theorem specWords_read (B : Nat) (a : Option Addr) (n c : Nat) (t : List Nd) (w : World) (hB : B ≤ w.heap.size) (h : Nds B w a n c t) (hn : n ≤ 1048576) (ht : IsT t) :
    Calls Try.prog 32 #[.agg #[.slice a n c]] w fun e w' => ∃ a' c', e = .returned (.slice a' (wordsOf t).length c') ∧ Wds w'.heap.size w' a' (wordsOf t).length c' (wordsOf t) ∧ Below w.heap.size w w' := by
  obtain ⟨ps, hv⟩ := ht
  refine (l2Words_any B a n c t w hB h hn).mono ?_
  rintro e w' ⟨a', n', c', rs, rfl, hW, _, hraw, _, hb⟩
  have e1 := hraw ps hv
  rw [← wordsOf_eq hv] at e1
  subst e1
  have hl := hW.len
  subst hl
  exact ⟨a', c', rfl, hW, hb⟩

theorem wordsOf_size (t : List Nd) : (wordsOf t).length ≤ 40 := by
  by_cases ht : IsT t
  · obtain ⟨ps, hv⟩ := ht
    rw [wordsOf_eq hv, hv.wordsLen]
    exact hv.few
  · rw [wordsOf_no ht]; simp

theorem wordsOf_short (t : List Nd) : ∀ x ∈ wordsOf t, x.length ≤ 12 := by
  by_cases ht : IsT t
  · obtain ⟨ps, hv⟩ := ht
    rw [wordsOf_eq hv]
    exact fun x hx => (hv.wordsW x hx).1
  · rw [wordsOf_no ht]; simp

end Go.Proofs.Ythjafoacnfgjhac
