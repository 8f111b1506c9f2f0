/-
  What the program finds of a trie's nodes, told one after another: plain mathematics.
-/
import Derived.Test.YtmgieahachphmabDoorEndsInj
import Derived.Test.YtmgieahachphmabDoorBack
namespace Go.Proofs.YtmgieahachphmabDoor
set_option linter.unusedVariables false

def fdStep (t : List Nd) (FL : List Sg × (Nat → Nat)) (i : Nat) : List Sg × (Nat → Nat) :=
  if sg t FL.2 i ∈ FL.1 then (FL.1, setL FL.2 i (FL.1.idxOf (sg t FL.2 i))) else (FL.1 ++ [sg t FL.2 i], setL FL.2 i FL.1.length)
def fdL (t : List Nd) (is : List Nat) : List Sg × (Nat → Nat) := is.foldl (fdStep t) ([], fun _ => 0)

theorem fdL_snoc (t : List Nd) (is : List Nat) (i : Nat) : fdL t (is ++ [i]) = fdStep t (fdL t is) i := by
  unfold fdL
  rw [List.foldl_append]
  rfl

theorem fdL_dwn (t : List Nd) : ∀ m, fdL t (dwn t.length m) = fnd t m
  | 0 => rfl
  | m + 1 => by
    rw [dwn, fdL_snoc, fdL_dwn t m]
    rfl

theorem fdL_len (t : List Nd) (is : List Nat) : (fdL t is).1.length ≤ is.length ∧ ∀ j, (fdL t is).2 j ≤ is.length := by
  have main : ∀ (is : List Nat) (FL : List Sg × (Nat → Nat)) (k : Nat), FL.1.length ≤ k → (∀ j, FL.2 j ≤ k) → (is.foldl (fdStep t) FL).1.length ≤ k + is.length ∧ ∀ j, (is.foldl (fdStep t) FL).2 j ≤ k + is.length := by
    intro is
    induction is with
    | nil => intro FL k h1 h2; exact ⟨h1, h2⟩
    | cons i is ih =>
      intro FL k h1 h2
      have h3 : (fdStep t FL i).1.length ≤ k + 1 := by
        unfold fdStep
        split
        · show FL.1.length ≤ _; omega
        · show (FL.1 ++ _).length ≤ _; rw [List.length_append, List.length_singleton]; omega
      have h4 : ∀ j, (fdStep t FL i).2 j ≤ k + 1 := by
        intro j
        unfold fdStep
        split
        · rename_i hm
          have := List.idxOf_lt_length_iff.2 hm
          show setL FL.2 i _ j ≤ _
          unfold setL
          split
          · omega
          · have := h2 j; omega
        · show setL FL.2 i _ j ≤ _
          unfold setL
          split
          · omega
          · have := h2 j; omega
      have h5 := ih (fdStep t FL i) (k + 1) h3 h4
      rw [List.foldl_cons, List.length_cons]
      exact ⟨by omega, fun j => by have := h5.2 j; omega⟩
  have := main is ([], fun _ => 0) 0 (Nat.le_refl _) (fun _ => Nat.le_refl _)
  simpa [fdL] using this

theorem sg_lets {t : List Nd} {ps : List Txt} (hv : Valid t ps) (L : Nat → Nat) (i : Nat) : Lets (sg t L i).2 := by
  intro p hp
  obtain ⟨k, hk, rfl⟩ := List.mem_map.1 hp
  obtain ⟨h1, h2, d, hd, _⟩ := mem_kidsTo.1 hk
  obtain ⟨q, x, c, _, _, hl, h3, h4, _⟩ := hv.tells.step k d (by omega) h1 hd
  rw [ndA_at hd]
  show 0 ≤ d.l ∧ d.l ≤ 25
  omega

theorem fdL_lets {t : List Nd} {ps : List Txt} (hv : Valid t ps) (is : List Nat) : ∀ s ∈ (fdL t is).1, Lets s.2 := by
  have main : ∀ (is : List Nat) (FL : List Sg × (Nat → Nat)), (∀ s ∈ FL.1, Lets s.2) → ∀ s ∈ (is.foldl (fdStep t) FL).1, Lets s.2 := by
    intro is
    induction is with
    | nil => intro FL h; exact h
    | cons i is ih =>
      intro FL h
      rw [List.foldl_cons]
      refine ih _ fun s hs => ?_
      unfold fdStep at hs
      split at hs
      · exact h s hs
      · rw [show ((FL.1 ++ [sg t FL.2 i], setL FL.2 i FL.1.length) : List Sg × (Nat → Nat)).1 = FL.1 ++ [sg t FL.2 i] from rfl, List.mem_append, List.mem_singleton] at hs
        rcases hs with hs | rfl
        · exact h s hs
        · exact sg_lets hv _ _
  exact main is _ (fun s hs => by cases hs)

/-- the texts tell what the tellings tell -/
theorem ets_mem {F : List Sg} {s : Sg} (hF : ∀ x ∈ F, Lets x.2) (hs : Lets s.2) : ets s ∈ F.map ets ↔ s ∈ F := by
  rw [List.mem_map]
  constructor
  · rintro ⟨x, hx, e⟩
    rw [← ets_inj (hF x hx) hs e]
    exact hx
  · intro h
    exact ⟨s, h, rfl⟩

theorem ets_idx : ∀ {F : List Sg} {s : Sg}, (∀ x ∈ F, Lets x.2) → Lets s.2 → (F.map ets).idxOf (ets s) = F.idxOf s
  | [], s, _, _ => rfl
  | a :: F, s, hF, hs => by
    rw [List.map_cons, List.idxOf_cons, List.idxOf_cons, ets_idx (fun x hx => hF x (by simp [hx])) hs]
    have e : (ets a == ets s) = (a == s) := by
      rw [Bool.eq_iff_iff, beq_iff_eq, beq_iff_eq]
      exact ⟨fun h => ets_inj (hF a (by simp)) hs h, fun h => by rw [h]⟩
    rw [e]

end Go.Proofs.YtmgieahachphmabDoor
