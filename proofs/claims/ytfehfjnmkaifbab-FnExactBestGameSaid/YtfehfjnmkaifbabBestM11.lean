/-
  The best game: the node at which it ends.
-/
import Derived.Test.YtfehfjnmkaifbabLet11
namespace Go.Proofs.Ytfehfjnmkaifbab
open Go.RowKit
set_option linter.unusedVariables false

theorem nxt_gt {t : List Nd} {ps : List Txt} {m i : Nat} (h : nxt t ps m i ≠ 0) : nxt t ps m i ∈ kidsTo t i t.length ∧ fatB t ps m i = false := by
  unfold nxt at h ⊢
  by_cases hf : fatB t ps m i = true
  · rw [if_pos hf] at h; exact absurd rfl h
  · rw [if_neg hf] at h ⊢
    refine ⟨?_, by simpa using hf⟩
    cases hk : kidsTo t i t.length with
    | nil => rw [hk] at h; exact absurd rfl h
    | cons k l =>
      cases hg : (k :: l).find? (goodB t ps m) with
      | some j => simp only [Option.getD_some]; exact List.mem_of_find?_eq_some hg
      | none => simp

theorem nxt_zero {t : List Nd} {ps : List Txt} {m i : Nat} : nxt t ps m i = 0 ↔ fatB t ps m i = true ∨ kidsTo t i t.length = [] := by
  constructor
  · intro h
    by_cases hf : fatB t ps m i = true
    · exact .inl hf
    · refine .inr ?_
      unfold nxt at h
      rw [if_neg hf] at h
      cases hk : kidsTo t i t.length with
      | nil => rfl
      | cons k l =>
        exfalso
        rw [hk] at h
        have hm : ∀ j, j ∈ k :: l → 0 < j := fun j hj => by have := (kids_gt (i := i) (by rw [hk]; exact hj)).1; omega
        cases hg : (k :: l).find? (goodB t ps m) with
        | some j =>
          rw [hg, Option.getD_some] at h
          have := hm j (List.mem_of_find?_eq_some hg)
          omega
        | none =>
          rw [hg] at h
          have := hm k List.mem_cons_self
          simp at h
          omega
  · rintro (h | h)
    · unfold nxt; rw [if_pos h]
    · unfold nxt
      split
      · rfl
      · rw [h]; rfl

/-- where the best game from a node ends -/
def endF (t : List Nd) (ps : List Txt) (m : Nat) : Nat → Nat → Nat
  | 0, i => i
  | f + 1, i => if nxt t ps m i = 0 then i else endF t ps m f (nxt t ps m i)
def bst (t : List Nd) (ps : List Txt) (m i : Nat) : Nat := endF t ps m (t.length - i) i

theorem endF_same {t : List Nd} {ps : List Txt} {m : Nat} : ∀ (f g i : Nat), t.length - i ≤ f → t.length - i ≤ g → endF t ps m f i = endF t ps m g i
  | 0, 0, _, _, _ => rfl
  | 0, g + 1, i, h1, _ => by
    have : nxt t ps m i = 0 := nxt_zero.2 (.inr (kids_none (by omega)))
    unfold endF
    rw [if_pos this]
  | f + 1, 0, i, _, h2 => by
    have : nxt t ps m i = 0 := nxt_zero.2 (.inr (kids_none (by omega)))
    unfold endF
    rw [if_pos this]
  | f + 1, g + 1, i, h1, h2 => by
    unfold endF
    by_cases h : nxt t ps m i = 0
    · rw [if_pos h, if_pos h]
    · rw [if_neg h, if_neg h]
      have := kids_gt (nxt_gt h).1
      exact endF_same f g _ (by omega) (by omega)

theorem bst_end {t : List Nd} {ps : List Txt} {m i : Nat} (h : nxt t ps m i = 0) : bst t ps m i = i := by
  unfold bst
  cases t.length - i with
  | zero => rfl
  | succ f => unfold endF; rw [if_pos h]

theorem bst_step {t : List Nd} {ps : List Txt} {m i : Nat} (h : nxt t ps m i ≠ 0) : bst t ps m i = bst t ps m (nxt t ps m i) := by
  have h2 := kids_gt (nxt_gt h).1
  unfold bst
  rw [endF_same (t.length - i) (t.length - i + 1) i (by omega) (by omega)]
  show (if _ then _ else _) = _
  rw [if_neg h]
  exact endF_same _ _ _ (by omega) (Nat.le_refl _)

/-- a kid's prefix -/
theorem kid_let {t : List Nd} {ps : List Txt} (h : Tells t t.length ps) {i k : Nat} (hk : k ∈ kidsTo t i t.length) : ps.getD k [] = ps.getD i [] ++ [letU t k] := by
  obtain ⟨h1, h2, d, hd, hp⟩ := mem_kidsTo.1 hk
  obtain ⟨_, x, _, hx⟩ := h.at (show i < t.length by omega)
  obtain ⟨c, hc⟩ := (par_iff h hx (by omega) hd).1 hp
  obtain ⟨j, y, c', _, _, hl, _, _, f1, f2⟩ := h.step k d (by omega) h1 hd
  have e0 := letU_at h (by omega) hd
  have hcc : c' = letU t k := UInt8.toNat_inj.1 (by omega)
  rw [f2] at hc
  have e1 := Option.some.inj hc
  have e2 : y = x := by
    have := congrArg List.dropLast e1
    simpa using this
  have e3 : c' = c := by
    rw [e2] at e1
    simpa using e1
  rw [List.getD, f2, List.getD, hx, e2, hcc]
  rfl

theorem find_step {l : List Nat} {p : Nat → Bool} {j k : Nat} (hk : l[j]? = some k) : (l.drop j).find? p = if p k = true then some k else (l.drop (j + 1)).find? p := by
  obtain ⟨h1, h2⟩ := List.getElem?_eq_some_iff.1 hk
  rw [List.drop_eq_getElem_cons h1, h2, List.find?_cons]
  cases p k <;> rfl

end Go.Proofs.Ytfehfjnmkaifbab
