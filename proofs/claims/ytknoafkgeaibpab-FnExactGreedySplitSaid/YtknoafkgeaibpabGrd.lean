/-
  The longest words that are taken from a text, again and again.
-/
import Derived.Test.YtknoafkgeaibpabGv
namespace Go.Proofs.Ytknoafkgeaibpab
set_option linter.unusedVariables false

theorem lastD_mem {l : List Nat} (h : l ≠ []) : l.getLastD 0 ∈ l := by
  rw [List.getLastD_eq_getLast?, List.getLast?_eq_some_getLast h]
  exact List.getLast_mem h

/-- the words that are taken, and what is left -/
def grd (ws : List Txt) : Nat → Txt → List Txt × Txt
  | 0, r => ([], r)
  | f + 1, r => if Mt ws r = [] then ([], r) else (r.take ((Mt ws r).getLastD 0) :: (grd ws f (r.drop ((Mt ws r).getLastD 0))).1, (grd ws f (r.drop ((Mt ws r).getLastD 0))).2)

theorem grd_stop {ws : List Txt} {r : Txt} (h : Mt ws r = []) : ∀ f, grd ws f r = ([], r)
  | 0 => rfl
  | f + 1 => by rw [grd, if_pos h]

theorem grd_step {ws : List Txt} {r : Txt} {f k : Nat} (h : Mt ws r ≠ []) (hk : (Mt ws r).getLastD 0 = k) : grd ws (f + 1) r = (r.take k :: (grd ws f (r.drop k)).1, (grd ws f (r.drop k)).2) := by
  rw [grd, if_neg h, hk]

theorem grd_len (ws : List Txt) : ∀ f r, (grd ws f r).1.length ≤ f
  | 0, r => Nat.le_refl _
  | f + 1, r => by
    by_cases h : Mt ws r = []
    · rw [grd_stop h]; simp
    · rw [grd_step h rfl]
      have := grd_len ws f (r.drop ((Mt ws r).getLastD 0))
      show (_ :: _ : List Txt).length ≤ _
      rw [List.length_cons]
      omega

theorem grd_rest_len (ws : List Txt) : ∀ f r, (grd ws f r).2.length ≤ r.length
  | 0, r => Nat.le_refl _
  | f + 1, r => by
    by_cases h : Mt ws r = []
    · rw [grd_stop h]; exact Nat.le_refl _
    · rw [grd_step h rfl]
      have := grd_rest_len ws f (r.drop ((Mt ws r).getLastD 0))
      rw [List.length_drop] at this
      show (grd ws f (r.drop _)).2.length ≤ _
      omega

/-- each word is one of the list, so it is short -/
theorem grd_short (ws : List Txt) : ∀ f r, ∀ x ∈ (grd ws f r).1, x.length ≤ r.length
  | 0, r => by simp [grd]
  | f + 1, r => by
    by_cases h : Mt ws r = []
    · rw [grd_stop h]; simp
    · rw [grd_step h rfl]
      intro x hx
      rcases List.mem_cons.1 hx with e | hx
      · rw [e, List.length_take]; omega
      · have := grd_short ws f _ x hx
        rw [List.length_drop] at this
        omega

/-- where the search stands: what has been taken, and what is still to be taken from a rest of j letters -/
structure GrdAt (ws : List Txt) (x : Txt) (L : List Txt) (q : Nat) (done : List Txt) (r : Txt) : Prop where
  list : L = done ++ (grd ws r.length r).1
  left : q = (grd ws r.length r).2.length

theorem GrdAt.start (ws : List Txt) (x : Txt) : GrdAt ws x (grd ws x.length x).1 (grd ws x.length x).2.length [] x := ⟨rfl, rfl⟩

theorem GrdAt.step {ws : List Txt} {x : Txt} {L : List Txt} {q : Nat} {done : List Txt} {r : Txt} (h : GrdAt ws x L q done r) {k : Nat} (h1 : Mt ws r ≠ []) (hk : (Mt ws r).getLastD 0 = k) (hk1 : 1 ≤ k) (hk2 : k ≤ r.length) : GrdAt ws x L q (done ++ [r.take k]) (r.drop k) := by
  have hf : ∀ f, r.length - k ≤ f → grd ws f (r.drop k) = grd ws (r.length - k) (r.drop k) := by
    have key : ∀ (m : Nat) (y : Txt) (f g : Nat), y.length ≤ m → y.length ≤ f → y.length ≤ g → grd ws f y = grd ws g y := by
      intro m
      induction m with
      | zero =>
        intro y f g h0 _ _
        have e : y = [] := List.eq_nil_of_length_eq_zero (by omega)
        subst e
        have z : Mt ws ([] : Txt) = [] := by
          apply List.eq_nil_iff_forall_not_mem.2
          intro z hz
          have := mt_mem.1 hz
          simp at this
          omega
        rw [grd_stop z, grd_stop z]
      | succ m ih =>
        intro y f g h0 hf hg
        by_cases z : Mt ws y = []
        · rw [grd_stop z, grd_stop z]
        · have hl := lastD_mem z
          have hm := mt_mem.1 hl
          cases f with
          | zero => omega
          | succ f =>
            cases g with
            | zero => omega
            | succ g =>
              rw [grd_step z rfl, grd_step z rfl, ih (y.drop ((Mt ws y).getLastD 0)) f g (by rw [List.length_drop]; omega) (by rw [List.length_drop]; omega) (by rw [List.length_drop]; omega)]
    intro f hf
    exact key _ _ _ _ (Nat.le_refl _) (by rw [List.length_drop]; exact hf) (by rw [List.length_drop]; exact Nat.le_refl _)
  obtain ⟨f, hf1⟩ : ∃ f, r.length = f + 1 := ⟨r.length - 1, by omega⟩
  have e : grd ws r.length r = (r.take k :: (grd ws (r.drop k).length (r.drop k)).1, (grd ws (r.drop k).length (r.drop k)).2) := by
    rw [List.length_drop, ← hf f (by omega)]
    conv => lhs; rw [hf1]
    exact grd_step h1 hk
  refine ⟨?_, ?_⟩
  · rw [h.list, e]; simp
  · rw [h.left, e]

theorem GrdAt.stop {ws : List Txt} {x : Txt} {L : List Txt} {q : Nat} {done : List Txt} {r : Txt} (h : GrdAt ws x L q done r) (h1 : Mt ws r = []) : L = done ∧ q = r.length := by
  rw [h.list, h.left, grd_stop h1]
  simp

end Go.Proofs.Ytknoafkgeaibpab
