/-
  Codes without prefixes, plain mathematics: lists of lengths and weights, fill, cost, what a code is.
-/
import Derived.Test.YthjafoacnfgjhabTxt
namespace Go.Proofs.Ythjafoacnfgjhab
set_option linter.unusedVariables false

/-- numbers of 1 to a greatest one, not none, not more than twelve -/
def nOk (l : List Int) (most : Int) : Bool := decide (1 ≤ l.length ∧ l.length ≤ 12 ∧ ∀ x ∈ l, 1 ≤ x ∧ x ≤ most)

theorem nOk_iff {l : List Int} {most : Int} : nOk l most = true ↔ 1 ≤ l.length ∧ l.length ≤ 12 ∧ ∀ x ∈ l, 1 ≤ x ∧ x ≤ most := by unfold nOk; exact decide_eq_true_iff
theorem nOk_len {l : List Int} {most : Int} (h : nOk l most = true) : 1 ≤ l.length ∧ l.length ≤ 12 := ⟨(nOk_iff.1 h).1, (nOk_iff.1 h).2.1⟩
theorem nOk_at {l : List Int} {most : Int} (h : nOk l most = true) {k : Nat} {x : Int} (hk : l[k]? = some x) : 1 ≤ x ∧ x ≤ most := (nOk_iff.1 h).2.2 x (List.mem_of_getElem? hk)
theorem nOk_bad {l : List Int} {most : Int} {k : Nat} {x : Int} (hk : l[k]? = some x) (h : ¬ (1 ≤ x ∧ x ≤ most)) : nOk l most = false := by
  unfold nOk
  rw [decide_eq_false_iff_not]
  rintro ⟨_, _, h3⟩
  exact h (h3 x (List.mem_of_getElem? hk))
theorem nOk_not {l : List Int} {most : Int} (h : ¬ (1 ≤ l.length ∧ l.length ≤ 12)) : nOk l most = false := by
  unfold nOk
  rw [decide_eq_false_iff_not]
  rintro ⟨h1, h2, _⟩
  exact h ⟨h1, h2⟩

/-- the first k numbers are within 1 and a greatest one -/
def NTo (l : List Int) (most : Int) (k : Nat) : Prop := ∀ j x, j < k → l[j]? = some x → 1 ≤ x ∧ x ≤ most
theorem NTo.zero (l : List Int) (most : Int) : NTo l most 0 := fun j x h => by omega
theorem NTo.succ {l : List Int} {most : Int} {k : Nat} (h : NTo l most k) {x : Int} (hk : l[k]? = some x) (hx : 1 ≤ x ∧ x ≤ most) : NTo l most (k + 1) := by
  intro j y hj hy
  by_cases e : j = k
  · subst e
    rw [hk] at hy
    cases hy
    exact hx
  · exact h j y (by omega) hy
theorem NTo.ok {l : List Int} {most : Int} {k : Nat} (h : NTo l most k) (hk : l.length ≤ k) (h1 : 1 ≤ l.length ∧ l.length ≤ 12) : nOk l most = true := by
  rw [nOk_iff]
  refine ⟨h1.1, h1.2, fun x hx => ?_⟩
  obtain ⟨j, hj⟩ := List.getElem?_of_mem hx
  have := (List.getElem?_eq_some_iff.1 hj).1
  exact h j x (by omega) hj

/-- how many texts of 14 signs begin with one of a length -/
def pw (x : Int) : Int := (((2 : Nat) ^ (14 - x.toNat) : Nat) : Int)
theorem pw_bd (x : Int) (h1 : 1 ≤ x) (h2 : x ≤ 14) : 1 ≤ pw x ∧ pw x ≤ 8192 := by
  obtain ⟨n, rfl⟩ : ∃ n : Nat, x = n := ⟨x.toNat, by omega⟩
  have : n = 1 ∨ n = 2 ∨ n = 3 ∨ n = 4 ∨ n = 5 ∨ n = 6 ∨ n = 7 ∨ n = 8 ∨ n = 9 ∨ n = 10 ∨ n = 11 ∨ n = 12 ∨ n = 13 ∨ n = 14 := by omega
  rcases this with rfl | rfl | rfl | rfl | rfl | rfl | rfl | rfl | rfl | rfl | rfl | rfl | rfl | rfl <;> decide
def fillZ (l : List Int) : Int := (l.map pw).sum
theorem fillZ_nil : fillZ [] = 0 := rfl
theorem fillZ_snoc (l : List Int) (x : Int) : fillZ (l ++ [x]) = fillZ l + pw x := by simp [fillZ]
theorem take_snoc_at {α : Type} {l : List α} {k : Nat} {x : α} (h : l[k]? = some x) : l.take (k + 1) = l.take k ++ [x] := by
  obtain ⟨hk, e⟩ := List.getElem?_eq_some_iff.1 h
  rw [List.take_succ_eq_append_getElem hk, e]
theorem fillZ_succ {l : List Int} {k : Nat} {x : Int} (h : l[k]? = some x) : fillZ (l.take (k + 1)) = fillZ (l.take k) + pw x := by
  rw [take_snoc_at h, fillZ_snoc]
theorem fillZ_bd : ∀ (l : List Int), (∀ x ∈ l, 1 ≤ x ∧ x ≤ 14) → 0 ≤ fillZ l ∧ fillZ l ≤ 8192 * (l.length : Int)
  | [], _ => by simp [fillZ]
  | x :: r, h => by
    have h1 := h x (by simp)
    have h2 := pw_bd x h1.1 h1.2
    have h3 := fillZ_bd r (fun y hy => h y (by simp [hy]))
    have e : fillZ (x :: r) = pw x + fillZ r := by simp [fillZ]
    rw [e, List.length_cons]
    omega
theorem fillZ_take_bd {l : List Int} (h : nOk l 14 = true) (k : Nat) : 0 ≤ fillZ (l.take k) ∧ fillZ (l.take k) ≤ 98304 := by
  have h1 := fillZ_bd (l.take k) (fun x hx => (nOk_iff.1 h).2.2 x (List.mem_of_mem_take hx))
  have h2 := (nOk_len h).2
  have h3 : (l.take k).length ≤ l.length := by rw [List.length_take]; omega
  omega

/-- cost -/
def costZ (l w : List Int) : Int := ((l.zip w).map (fun p => p.1 * p.2)).sum
theorem costZ_succ {l w : List Int} {k : Nat} {x y : Int} (hx : l[k]? = some x) (hy : w[k]? = some y) : costZ (l.take (k + 1)) (w.take (k + 1)) = costZ (l.take k) (w.take k) + x * y := by
  obtain ⟨h1, _⟩ := List.getElem?_eq_some_iff.1 hx
  obtain ⟨h2, _⟩ := List.getElem?_eq_some_iff.1 hy
  unfold costZ
  rw [take_snoc_at hx, take_snoc_at hy, List.zip_append (by simp; omega)]
  simp
theorem costZ_bd {A B : Int} (hA : 0 ≤ A) (hB : 0 ≤ B) : ∀ (l w : List Int), (∀ x ∈ l, 0 ≤ x ∧ x ≤ A) → (∀ y ∈ w, 0 ≤ y ∧ y ≤ B) → 0 ≤ costZ l w ∧ costZ l w ≤ A * B * (l.length : Int)
  | [], w, _, _ => by simp [costZ]
  | x :: r, [], h, _ => by
    have := Int.mul_nonneg (Int.mul_nonneg hA hB) (show (0 : Int) ≤ ((x :: r).length : Int) by omega)
    simpa [costZ] using this
  | x :: r, y :: s, h, g => by
    have h1 := h x (by simp)
    have g1 := g y (by simp)
    have ih := costZ_bd hA hB r s (fun z hz => h z (by simp [hz])) (fun z hz => g z (by simp [hz]))
    have e : costZ (x :: r) (y :: s) = x * y + costZ r s := by simp [costZ]
    have m1 : 0 ≤ x * y := Int.mul_nonneg h1.1 g1.1
    have m2 : x * y ≤ A * B := Int.mul_le_mul h1.2 g1.2 g1.1 hA
    rw [e, List.length_cons]
    have : A * B * ((r.length + 1 : Nat) : Int) = A * B * (r.length : Int) + A * B := by
      rw [Int.natCast_add]; simp [Int.mul_add]
    omega

/-- a sign -/
def Sg (b : UInt8) : Prop := b = 48 ∨ b = 49
instance (b : UInt8) : Decidable (Sg b) := by unfold Sg; infer_instance
/-- a text of signs -/
def Sgs (x : Txt) : Prop := ∀ b ∈ x, Sg b
instance (x : Txt) : Decidable (Sgs x) := by unfold Sgs; infer_instance
/-- the sequence of a symbol -/
def Sq (x : Txt) : Prop := 1 ≤ x.length ∧ x.length ≤ 14 ∧ Sgs x
instance (x : Txt) : Decidable (Sq x) := by unfold Sq; infer_instance

/-- a list is a code -/
def Cd (cs : List Txt) : Prop := 1 ≤ cs.length ∧ cs.length ≤ 12 ∧ ∀ (i : Nat) (x : Txt), cs[i]? = some x → Sq x ∧ ∀ (k : Nat) (y : Txt), cs[k]? = some y → k ≠ i → ¬ x <+: y
open Classical in
noncomputable def cdB (cs : List Txt) : Bool := decide (Cd cs)
open Classical in
theorem cdB_iff {cs : List Txt} : cdB cs = true ↔ Cd cs := by unfold cdB; exact decide_eq_true_iff
open Classical in
theorem cdB_no {cs : List Txt} (h : ¬ Cd cs) : cdB cs = false := by unfold cdB; exact decide_eq_false h
theorem Cd.sq {cs : List Txt} (h : Cd cs) {i : Nat} {x : Txt} (hi : cs[i]? = some x) : Sq x := (h.2.2 i x hi).1
theorem Cd.free {cs : List Txt} (h : Cd cs) {i k : Nat} {x y : Txt} (hi : cs[i]? = some x) (hk : cs[k]? = some y) (hp : x <+: y) : k = i := by
  by_cases e : k = i
  · exact e
  · exact absurd hp ((h.2.2 i x hi).2 k y hk e)

/-- the first i texts are sequences that no other text begins with -/
def CdTo (cs : List Txt) (n : Nat) : Prop := ∀ (i : Nat) (x : Txt), i < n → cs[i]? = some x → Sq x ∧ ∀ (k : Nat) (y : Txt), cs[k]? = some y → k ≠ i → ¬ x <+: y
/-- a text is no beginning of the first n ones but one -/
def FreeTo (cs : List Txt) (i n : Nat) (x : Txt) : Prop := ∀ (k : Nat) (y : Txt), k < n → cs[k]? = some y → k ≠ i → ¬ x <+: y
theorem CdTo.zero (cs : List Txt) : CdTo cs 0 := fun i x h => by omega
theorem FreeTo.zero (cs : List Txt) (i : Nat) (x : Txt) : FreeTo cs i 0 x := fun k y h => by omega
theorem FreeTo.succ {cs : List Txt} {i n : Nat} {x y : Txt} (h : FreeTo cs i n x) (hn : cs[n]? = some y) (hy : n ≠ i → ¬ x <+: y) : FreeTo cs i (n + 1) x := by
  intro k z hk hz hki
  by_cases e : k = n
  · subst e
    rw [hn] at hz
    cases hz
    exact hy hki
  · exact h k z (by omega) hz hki
theorem CdTo.succ {cs : List Txt} {n : Nat} {x : Txt} (h : CdTo cs n) (hn : cs[n]? = some x) (hs : Sq x) (hf : FreeTo cs n cs.length x) : CdTo cs (n + 1) := by
  intro i z hi hz
  by_cases e : i = n
  · subst e
    rw [hn] at hz
    cases hz
    exact ⟨hs, fun k y hk hki => hf k y (List.getElem?_eq_some_iff.1 hk).1 hk hki⟩
  · exact h i z (by omega) hz
theorem CdTo.cd {cs : List Txt} (h : CdTo cs cs.length) (h1 : 1 ≤ cs.length) (h2 : cs.length ≤ 12) : Cd cs :=
  ⟨h1, h2, fun i x hi => h i x (List.getElem?_eq_some_iff.1 hi).1 hi⟩
theorem not_cd_len {cs : List Txt} (h : ¬ (1 ≤ cs.length ∧ cs.length ≤ 12)) : ¬ Cd cs := fun c => h ⟨c.1, c.2.1⟩
theorem not_cd_sq {cs : List Txt} {i : Nat} {x : Txt} (hi : cs[i]? = some x) (h : ¬ Sq x) : ¬ Cd cs := fun c => h (c.sq hi)
theorem not_cd_pre {cs : List Txt} {i k : Nat} {x y : Txt} (hi : cs[i]? = some x) (hk : cs[k]? = some y) (hn : k ≠ i) (hp : x <+: y) : ¬ Cd cs := fun c => hn (c.free hi hk hp)

/-- the lengths of a code -/
def lensZ (cs : List Txt) : List Int := cs.map fun x => (x.length : Int)
theorem lensZ_len (cs : List Txt) : (lensZ cs).length = cs.length := by simp [lensZ]
theorem lensZ_ok {cs : List Txt} (h : Cd cs) : nOk (lensZ cs) 14 = true := by
  rw [nOk_iff, lensZ_len]
  refine ⟨h.1, h.2.1, fun x hx => ?_⟩
  unfold lensZ at hx
  obtain ⟨y, hy, rfl⟩ := List.mem_map.1 hx
  obtain ⟨i, hi⟩ := List.getElem?_of_mem hy
  have := h.sq hi
  unfold Sq at this
  omega

end Go.Proofs.Ythjafoacnfgjhab
