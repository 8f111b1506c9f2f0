/-
  When a pressed tree is valid, and the words and nodes that it then has: plain mathematics.
-/
import Derived.Test.YtoofpgehkihbcaaL4Prefix
import Derived.Test.YtoofpgehkihbcaaMade
namespace Go.Proofs.Ytoofpgehkihbcaa
set_option linter.unusedVariables false

/-- the pressed tree is valid -/
noncomputable def pOk (p : List Br) : Bool := @decide (IsP p) (Classical.propDecidable _)
theorem pOk_iff {p : List Br} : pOk p = true ↔ IsP p := by simp [pOk]
theorem pOk_no {p : List Br} (h : ¬ IsP p) : pOk p = false := by simp [pOk, h]
theorem pOk_not {p : List Br} (h : pOk p = false) : ¬ IsP p := fun k => by rw [pOk_iff.2 k] at h; cases h

/-- its words -/
noncomputable def pWds (p : List Br) : List Txt := @dite _ (IsP p) (Classical.propDecidable _) (fun h => Classical.choose h) (fun _ => [])

structure IsPW (p : List Br) (ws : List Txt) : Prop where
  asc : Asc ws
  isW : ∀ w ∈ ws, IsW w
  few : ws.length ≤ 40
  eq : p = prw ws

theorem pWds_is {p : List Br} (h : pOk p = true) : IsPW p (pWds p) := by
  have hp := pOk_iff.1 h
  have : pWds p = Classical.choose hp := dif_pos hp
  rw [this]
  obtain ⟨h1, h2, h3, h4⟩ := Classical.choose_spec hp
  exact ⟨h1, h2, h3, h4⟩

theorem IsPW.ok {p : List Br} {ws : List Txt} (h : IsPW p ws) : pOk p = true := pOk_iff.2 ⟨ws, h.asc, h.isW, h.few, h.eq⟩
theorem IsPW.uniq {p : List Br} {ws us : List Txt} (h : IsPW p ws) (g : IsPW p us) : ws = us := prw_inj h.asc g.asc h.isW g.isW (h.eq.symm.trans g.eq)
theorem IsPW.wds {p : List Br} {ws : List Txt} (h : IsPW p ws) : pWds p = ws := (pWds_is h.ok).uniq h
theorem IsPW.len {p : List Br} {ws : List Txt} (h : IsPW p ws) : 1 ≤ p.length ∧ p.length ≤ 81 := by
  have h1 := prw_few ws
  have h2 := (List.getElem?_eq_some_iff.1 (stl_sta ws).zero).1
  have h3 := h.few
  rw [h.eq, prw_len] at *
  omega
theorem IsPW.tells {p : List Br} {ws : List Txt} (h : IsPW p ws) : TellsB p (stl ws) := by rw [h.eq]; exact tellsB_prw h.isW
theorem IsPW.wdb {p : List Br} {ws : List Txt} (h : IsPW p ws) : wdb p (stl ws) = ws := by rw [h.eq]; exact wdb_prs h.asc

/-- its nodes -/
noncomputable def pT (p : List Br) : List Nd := if pOk p then made (pWds p) else []
theorem pT_yes {p : List Br} (h : pOk p = true) : pT p = made (pWds p) := if_pos h
theorem pT_no {p : List Br} (h : pOk p = false) : pT p = [] := by unfold pT; rw [h]; rfl

/-- what both functions come to: the words that are read are a set, and its pressed tree is this one -/
theorem pOk_of {p : List Br} {ys : List Txt} (hy : ∀ ws, IsPW p ws → ys = ws) : pOk p = (setOk ys && @decide (prw (setOf ys) = p) (Classical.propDecidable _)) ∧ (pOk p = true → pWds p = setOf ys) := by
  have hf : ∀ ws, IsPW p ws → setOk ys = true ∧ setOf ys = ws := fun ws h => by
    have e := hy ws h
    rw [e]
    have hs := setOf_id h.asc
    refine ⟨?_, hs⟩
    rw [setOk_all h.isW, hs, decide_eq_true_eq]
    exact h.few
  constructor
  · rw [Bool.eq_iff_iff, Bool.and_eq_true, @decide_eq_true_eq _ (Classical.propDecidable _)]
    constructor
    · intro h
      have hw := pWds_is h
      obtain ⟨h1, h2⟩ := hf _ hw
      exact ⟨h1, by rw [h2]; exact hw.eq.symm⟩
    · rintro ⟨h1, h2⟩
      obtain ⟨h3, h4⟩ := setOk_words h1
      exact (IsPW.mk (setOf_asc ys) h3 h4 h2.symm).ok
  · intro h
    exact (hf _ (pWds_is h)).2.symm

theorem made_wds_id {ws : List Txt} (ha : Asc ws) (hw : ∀ w ∈ ws, IsW w) (hn : ws.length ≤ 40) : wds (made ws) (pres ws) = ws := wds_mkT ha (pres_pre ws)

end Go.Proofs.Ytoofpgehkihbcaa
