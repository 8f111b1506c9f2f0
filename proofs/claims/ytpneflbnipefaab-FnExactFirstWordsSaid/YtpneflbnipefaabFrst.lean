/-
  The words of a list that begin with none of its others, or with which none of the others begins.
-/
import Derived.Test.YtpneflbnipefaabFreeM
namespace Go.Proofs.Ytpneflbnipefaab
set_option linter.unusedVariables false

/-- a text stands to none of the others -/
def Fst (xs : List Txt) (f : Bool) (k : Nat) (x : Txt) : Prop := ∀ (j : Nat) (y : Txt), j ≠ k → xs[j]? = some y → ¬ (if f = true then y <+: x else x <+: y)

open Classical in
noncomputable def frst (xs : List Txt) (f : Bool) : Nat → List Txt
  | 0 => []
  | k + 1 => frst xs f k ++ (match xs[k]? with
    | some x => if Fst xs f k x then [x] else []
    | none => [])

theorem frst_hit {xs : List Txt} {f : Bool} {k : Nat} {x : Txt} (h : xs[k]? = some x) (hf : Fst xs f k x) : frst xs f (k + 1) = frst xs f k ++ [x] := by
  simp [frst, h, hf]
theorem frst_miss {xs : List Txt} {f : Bool} {k : Nat} {x : Txt} (h : xs[k]? = some x) (hf : ¬ Fst xs f k x) : frst xs f (k + 1) = frst xs f k := by
  simp [frst, h, hf]

theorem frst_len (xs : List Txt) (f : Bool) : ∀ k, k ≤ xs.length → (frst xs f k).length ≤ k ∧ ((frst xs f k).length = k ↔ ∀ (j : Nat) (x : Txt), j < k → xs[j]? = some x → Fst xs f j x)
  | 0, _ => by simp [frst]
  | k + 1, hk => by
    have ih := frst_len xs f k (by omega)
    obtain ⟨x, hx⟩ : ∃ x, xs[k]? = some x := ⟨_, List.getElem?_eq_getElem (by omega)⟩
    by_cases hf : Fst xs f k x
    · rw [frst_hit hx hf, List.length_append]
      refine ⟨by simp; omega, fun h j z hj hz => ?_, fun h => ?_⟩
      · by_cases c : j = k
        · subst c
          rw [hx] at hz
          obtain rfl := Option.some.inj hz
          exact hf
        · exact ih.2.1 (by simp at h; omega) j z (by omega) hz
      · have := ih.2.2 (fun j z hj hz => h j z (by omega) hz)
        simp
        omega
    · rw [frst_miss hx hf]
      exact ⟨by omega, fun h => by omega, fun h => absurd (h k x (by omega) hx) hf⟩

/-- all words of a trie are first ones where each stands alone -/
theorem free_iff {t : List Nd} {ps : List Txt} (hv : Valid t ps) : (frst (wds t ps) true (wds t ps).length).length = (wds t ps).length ↔ ∀ y : EW t ps, Aln y := by
  rw [(frst_len (wds t ps) true _ (Nat.le_refl _)).2]
  constructor
  · intro h y m z hz hp
    by_cases c : m = y.i
    · exact c
    · exfalso
      have hasc := hv.tells.asc
      have hne : y.x ≠ z := fun e => c (asc_inj hasc (e ▸ hz) y.at')
      have him := asc_pos hasc y.at' hz (bef_pre hp hne)
      obtain ⟨j, u, d, hu, hd, he, hpu⟩ := hv.word m z (by omega) hz
      obtain ⟨dy, hdy, hey⟩ := y.en
      obtain ⟨k, hk⟩ := List.getElem?_of_mem (mem_wds.2 ⟨j, d, hd, hu, he⟩)
      obtain ⟨q, hq⟩ := List.getElem?_of_mem (mem_wds.2 ⟨y.i, dy, hdy, y.at', hey⟩)
      have hkl := (List.getElem?_eq_some_iff.1 hk).1
      by_cases e : q = k
      · subst e
        rw [hk] at hq
        obtain rfl := Option.some.inj hq
        exact hne (hp.eq_of_length (Nat.le_antisymm hp.length_le hpu.length_le))
      · exact h k u hkl hk q y.x e hq (by simp; exact hp.trans hpu)
  · intro h k x hk hx j y hj hy hp
    simp at hp
    obtain ⟨i1, d1, hd1, h1, he1⟩ := mem_wds.1 (at_mem hx)
    obtain ⟨i2, d2, hd2, h2, he2⟩ := mem_wds.1 (at_mem hy)
    have hi := h ⟨i2, y, h2, d2, hd2, he2⟩ i1 x h1 hp
    simp at hi
    subst hi
    rw [h1] at h2
    obtain rfl := Option.some.inj h2
    exact hj (asc_inj hv.wordsAsc hy hx)

end Go.Proofs.Ytpneflbnipefaab

namespace Go.Proofs.Ytpneflbnipefaab
set_option linter.unusedVariables false

open Classical in
/-- no other node is under this one -/
noncomputable def lastP (ps : List Txt) (q : Nat × Txt) : Bool := decide (∀ (m : Nat) (z : Txt), ps[m]? = some z → q.2 <+: z → m = q.1)

theorem lastP_iff {ps : List Txt} {q : Nat × Txt} : lastP ps q = true ↔ ∀ (m : Nat) (z : Txt), ps[m]? = some z → q.2 <+: z → m = q.1 := by simp [lastP]

theorem pls_pre (t : List Nd) (ps : List Txt) (k : Nat) : ∀ m, k ≤ m → ∃ r, pls t ps m = pls t ps k ++ r
  | 0, h => ⟨[], by obtain rfl : k = 0 := by omega
                    simp⟩
  | m + 1, h => by
    by_cases e : k = m + 1
    · subst e; exact ⟨[], by simp⟩
    · obtain ⟨r, hr⟩ := pls_pre t ps k m (by omega)
      exact ⟨r ++ _, by rw [pls, hr, List.append_assoc]⟩

theorem fst_last {t : List Nd} {ps : List Txt} (hv : Valid t ps) {k j : Nat} {d : Nd} {x : Txt} (hd : t[k]? = some d) (hx : ps[k]? = some x) (he : d.e = true) (hj : (wds t ps)[j]? = some x) :
    Fst (wds t ps) false j x ↔ lastP ps (k, x) = true := by
  rw [lastP_iff]
  constructor
  · intro h m z hz hp
    by_cases c : m = k
    · exact c
    · exfalso
      have hasc := hv.tells.asc
      have hne : x ≠ z := fun e => c (asc_inj hasc (e ▸ hz) hx)
      have him := asc_pos hasc hx hz (bef_pre hp hne)
      obtain ⟨i, u, d2, hu, hd2, he2, hpu⟩ := hv.word m z (by omega) hz
      obtain ⟨q, hq⟩ := List.getElem?_of_mem (mem_wds.2 ⟨i, d2, hd2, hu, he2⟩)
      by_cases e : q = j
      · subst e
        rw [hj] at hq
        obtain rfl := Option.some.inj hq
        exact hne (hp.eq_of_length (Nat.le_antisymm hp.length_le hpu.length_le))
      · exact h q u e hq (by simp; exact hp.trans hpu)
  · intro h i y hi hy hp
    simp at hp
    obtain ⟨i2, d2, hd2, h2, he2⟩ := mem_wds.1 (at_mem hy)
    have h3 := h i2 y h2 hp
    simp at h3
    subst h3
    rw [hx] at h2
    obtain rfl := Option.some.inj h2
    exact hi (asc_inj hv.wordsAsc hy hj)

theorem frst_pls {t : List Nd} {ps : List Txt} (hv : Valid t ps) : ∀ k, k ≤ t.length → frst (wds t ps) false (pls t ps k).length = ((pls t ps k).filter (lastP ps)).map Prod.snd
  | 0, _ => by simp [pls, frst]
  | k + 1, hk => by
    have ih := frst_pls hv k (by omega)
    obtain ⟨d, hd⟩ : ∃ d, t[k]? = some d := ⟨_, List.getElem?_eq_getElem (by omega)⟩
    obtain ⟨x, hx⟩ : ∃ x, ps[k]? = some x := ⟨_, List.getElem?_eq_getElem (by have := hv.lenEq; omega)⟩
    cases he : d.e with
    | false => rw [pls_miss hd hx he, ih]
    | true =>
      have hhit := pls_hit hd hx he
      have hj : (wds t ps)[(pls t ps k).length]? = some x := by
        obtain ⟨r, hr⟩ := pls_pre t ps (k + 1) t.length hk
        rw [← pls_all hv, hr, hhit, List.append_assoc, List.map_append, List.getElem?_append_right (by simp)]
        simp
      rw [hhit, List.length_append, List.filter_append, List.map_append, ← ih]
      by_cases hf : Fst (wds t ps) false (pls t ps k).length x
      · have h9 := (fst_last hv hd hx he hj).1 hf
        rw [show (pls t ps k).length + [(k, x)].length = (pls t ps k).length + 1 from rfl, frst_hit hj hf]
        simp [h9]
      · have h9 : lastP ps (k, x) = false := by
          cases h8 : lastP ps (k, x) with
          | false => rfl
          | true => exact absurd ((fst_last hv hd hx he hj).2 h8) hf
        rw [show (pls t ps k).length + [(k, x)].length = (pls t ps k).length + 1 from rfl, frst_miss hj hf]
        simp [h9]

theorem frst_last {t : List Nd} {ps : List Txt} (hv : Valid t ps) : frst (wds t ps) false (wds t ps).length = ((pls t ps t.length).filter (lastP ps)).map Prod.snd := by
  rw [← frst_pls hv t.length (Nat.le_refl _)]
  congr 1
  rw [← pls_all hv, List.length_map]

/-- what a word's closure asks -/
theorem lastP_aln {t : List Nd} {ps : List Txt} (y : EW t ps) : lastP ps y.val = true ↔ Aln y := lastP_iff

end Go.Proofs.Ytpneflbnipefaab
