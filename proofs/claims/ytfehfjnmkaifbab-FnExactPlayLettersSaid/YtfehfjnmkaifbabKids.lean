/-
  What is under a node, and its kids: plain mathematics.
-/
import Derived.Test.YtfehfjnmkaifbabClimb
namespace Go.Proofs.Ytfehfjnmkaifbab
set_option linter.unusedVariables false

/-- a node is the kid with a letter exactly if its prefix says so -/
theorem kid_iff {t : List Nd} {ps : List Txt} (h : Tells t t.length ps) {i j : Nat} {x : Txt} {d : Nd} {c : UInt8} (hi : ps[i]? = some x) (hj : 1 ≤ j) (hd : t[j]? = some d) :
    (d.p = (i : Int) ∧ d.l = (c.toNat : Int) - 97) ↔ ps[j]? = some (x ++ [c]) := by
  have hjl := (List.getElem?_eq_some_iff.1 hd).1
  obtain ⟨q, v, c', hp, hq, hl, c0, c1, f1, f2⟩ := h.step j d hj hjl hd
  constructor
  · rintro ⟨h1, h2⟩
    have : q = i := by omega
    subst this
    rw [hi] at f1
    have ec : c = c' := UInt8.toNat_inj.1 (by omega)
    rw [f2, ec, Option.some.inj f1]
  · intro h1
    rw [f2] at h1
    have h2 := Option.some.inj h1
    have h3 : v = x := by
      have := congrArg List.dropLast h2
      simpa using this
    have h4 : c' = c := by
      rw [h3] at h2
      simpa using h2
    rw [h3] at f1
    have := asc_inj h.asc f1 hi
    subst this
    rw [← h4]
    exact ⟨hp, hl⟩

/-- the parent of a node -/
theorem par_iff {t : List Nd} {ps : List Txt} (h : Tells t t.length ps) {i j : Nat} {x : Txt} {d : Nd} (hi : ps[i]? = some x) (hj : 1 ≤ j) (hd : t[j]? = some d) :
    d.p = (i : Int) ↔ ∃ c : UInt8, ps[j]? = some (x ++ [c]) := by
  have hjl := (List.getElem?_eq_some_iff.1 hd).1
  obtain ⟨q, v, c', hp, hq, hl, c0, c1, f1, f2⟩ := h.step j d hj hjl hd
  constructor
  · intro h1
    exact ⟨c', (kid_iff h hi hj hd).1 ⟨h1, hl⟩⟩
  · rintro ⟨c, h1⟩
    exact ((kid_iff h hi hj hd).2 h1).1

/-- side by side -/
theorem under_iff {t : List Nd} {ps : List Txt} (h : Tells t t.length ps) {i j : Nat} {x y : Txt} {d : Nd} (hi : ps[i]? = some x) (hij : i < j) (hd : t[j]? = some d) (hy : ps[j]? = some y)
    (hb : ∀ (m : Nat) (z : Txt), i < m → m < j → ps[m]? = some z → x <+: z) : (i : Int) ≤ d.p ↔ x <+: y := by
  have hjl := (List.getElem?_eq_some_iff.1 hd).1
  obtain ⟨q, v, c', hp, hq, hl, c0, c1, f1, f2⟩ := h.step j d (by omega) hjl hd
  rw [hy] at f2
  obtain rfl := Option.some.inj f2
  constructor
  · intro h1
    by_cases e : q = i
    · subst e
      rw [hi] at f1
      rw [Option.some.inj f1]
      exact List.prefix_append _ _
    · exact (hb q v (by omega) hq f1).trans (List.prefix_append _ _)
  · intro hp'
    rcases List.prefix_concat_iff.1 (by simpa using hp') with e | e
    · rw [e] at hi
      have := asc_inj h.asc hi hy
      omega
    · by_cases hqi : q < i
      · exfalso
        have h1 := asc_lt h.asc f1 hi hqi
        by_cases he : x = v
        · rw [he] at h1; rw [bef_irrefl] at h1; cases h1
        · rw [bef_asymm (bef_pre e he)] at h1; cases h1
      · omega

/-- the place behind all that is under a node -/
structure Behind (t : List Nd) (ps : List Txt) (i b : Nat) : Prop where
  lt : i < b
  le : b ≤ t.length
  all : ∀ (x : Txt), ps[i]? = some x → ∀ (m : Nat) (z : Txt), i < m → m < b → ps[m]? = some z → x <+: z
  stop : ∀ (x y : Txt), ps[i]? = some x → ps[b]? = some y → ¬ x <+: y

theorem Behind.rest {t : List Nd} {ps : List Txt} (h : Tells t t.length ps) {i b : Nat} (hb : Behind t ps i b) {x : Txt} (hx : ps[i]? = some x) : ∀ (m : Nat) (z : Txt), b ≤ m → ps[m]? = some z → ¬ x <+: z := by
  intro m z hm hz hp
  have hml := (List.getElem?_eq_some_iff.1 hz).1
  have hbl : b < t.length := by have := h.len; omega
  obtain ⟨_, y, _, hy⟩ := h.at hbl
  refine hb.stop x y hx hy ?_
  exact pre_between' (asc_le h.asc hx hy (by have := hb.lt; omega)) (asc_le h.asc hy hz hm) hp

theorem Behind.iff {t : List Nd} {ps : List Txt} (h : Tells t t.length ps) {i b : Nat} (hb : Behind t ps i b) {x : Txt} (hx : ps[i]? = some x) {m : Nat} {z : Txt} (hz : ps[m]? = some z) : x <+: z ↔ i ≤ m ∧ m < b := by
  constructor
  · intro hp
    constructor
    · by_cases c : i ≤ m
      · exact c
      · exfalso
        have h1 := asc_lt h.asc hz hx (by omega)
        by_cases he : x = z
        · rw [he, bef_irrefl] at h1; cases h1
        · rw [bef_asymm (bef_pre hp he)] at h1; cases h1
    · by_cases c : m < b
      · exact c
      · exact absurd hp (hb.rest h hx m z (by omega) hz)
  · rintro ⟨h1, h2⟩
    by_cases e : i = m
    · subst e
      rw [hx] at hz
      rw [Option.some.inj hz]
      exact List.prefix_refl _
    · exact hb.all x hx m z (by omega) h2 hz

/-- where the next kid may be: whoever is under the node there is a kid of it -/
def KidAt (t : List Nd) (ps : List Txt) (i k : Nat) : Prop := ∀ (x y : Txt) (d : Nd), ps[i]? = some x → ps[k]? = some y → t[k]? = some d → x <+: y → d.p = (i : Int)

theorem kidAt_first {t : List Nd} {ps : List Txt} (h : Tells t t.length ps) (i : Nat) : KidAt t ps i (i + 1) := by
  intro x y d hx hy hd hp
  have hl := (List.getElem?_eq_some_iff.1 hd).1
  have := (under_iff h hx (by omega) hd hy (fun m z h1 h2 => by omega)).2 hp
  obtain ⟨q, v, c', hp', hq, _⟩ := h.step (i + 1) d (by omega) hl hd
  omega

theorem kidAt_next {t : List Nd} {ps : List Txt} (h : Tells t t.length ps) {i k b : Nat} {dk : Nd} (hik : i < k) (hdk : t[k]? = some dk) (hpk : dk.p = (i : Int)) (hb : Behind t ps k b) : KidAt t ps i b := by
  intro x y d hx hy hd hp
  have hl := (List.getElem?_eq_some_iff.1 hd).1
  obtain ⟨c, hk⟩ := (par_iff h hx (by omega) hdk).1 hpk
  have hkb := hb.lt
  obtain ⟨q, v, c', hp', hq, hl', c0, c1, f1, f2⟩ := h.step b d (by omega) hl hd
  rw [hy] at f2
  obtain rfl := Option.some.inj f2
  rcases List.prefix_concat_iff.1 (by simpa using hp) with e | e
  · rw [e] at hx
    have := asc_inj h.asc hx hy
    omega
  · by_cases he : x = v
    · rw [he] at hx
      have := asc_inj h.asc hx f1
      omega
    · exfalso
      have hnot := hb.stop _ _ hk hy
      have hiq : i < q := asc_pos h.asc hx f1 (bef_pre e he)
      by_cases hqk : q < k
      · obtain ⟨r, rfl⟩ := e
        obtain ⟨c2, r2, rfl⟩ : ∃ c2 r2, r = c2 :: r2 := by
          cases r with
          | nil => simp at he
          | cons a b => exact ⟨a, b, rfl⟩
        have h1 := asc_lt h.asc f1 hk hqk
        rw [bef_app] at h1
        have h2 := asc_lt h.asc hk hy hkb
        rw [List.append_assoc, bef_app] at h2
        simp only [bef, List.cons_append] at h1 h2
        by_cases hcc : c2 = c
        · rw [if_pos hcc] at h1
          cases r2 <;> simp at h1
        · rw [if_neg hcc] at h1
          rw [if_neg (fun e => hcc e.symm)] at h2
          simp only [decide_eq_true_eq, UInt8.lt_iff_toNat_lt] at h1 h2
          omega
      · by_cases hqk' : q = k
        · subst hqk'
          rw [f1] at hk
          rw [Option.some.inj hk] at hnot
          exact hnot (List.prefix_append _ _)
        · have := hb.all _ hk q v (by omega) hq f1
          exact hnot (this.trans (List.prefix_append _ _))

theorem not_kid {t : List Nd} {ps : List Txt} (h : Tells t t.length ps) {i k b m : Nat} {dk d : Nd} (hik : i < k) (hdk : t[k]? = some dk) (hpk : dk.p = (i : Int)) (hb : Behind t ps k b) (hm : k < m) (hmb : m < b) (hd : t[m]? = some d) : d.p ≠ (i : Int) := by
  intro hp
  have hil : i < t.length := by have := (List.getElem?_eq_some_iff.1 hdk).1; omega
  obtain ⟨_, x, _, hx⟩ := h.at hil
  obtain ⟨c, hk⟩ := (par_iff h hx (by omega) hdk).1 hpk
  obtain ⟨c2, hm'⟩ := (par_iff h hx (by omega) hd).1 hp
  have hpre := hb.all _ hk m _ hm hmb hm'
  have := hpre.eq_of_length (by simp)
  rw [this] at hk
  have := asc_inj h.asc hk hm'
  omega

theorem no_more {t : List Nd} {ps : List Txt} (h : Tells t t.length ps) {i k m : Nat} {dk d : Nd} (hik : i < k) (hK : KidAt t ps i k) (hdk : t[k]? = some dk) (hpk : dk.p ≠ (i : Int)) (hm : k ≤ m) (hd : t[m]? = some d) : d.p ≠ (i : Int) := by
  intro hp
  have hkl := (List.getElem?_eq_some_iff.1 hdk).1
  obtain ⟨_, x, _, hx⟩ := h.at (show i < t.length by omega)
  obtain ⟨_, y, _, hy⟩ := h.at hkl
  obtain ⟨c, hm'⟩ := (par_iff h hx (by omega) hd).1 hp
  have hxy : x <+: y := pre_between' (asc_le h.asc hx hy (by omega)) (asc_le h.asc hy hm' hm) (List.prefix_append _ _)
  exact hpk (hK x y dk hx hy hdk hxy)

/-- the kids among the first k nodes -/
def kidsTo (t : List Nd) (i : Nat) : Nat → List Nat
  | 0 => []
  | k + 1 => kidsTo t i k ++ match t[k]? with
    | some d => if i < k ∧ d.p = (i : Int) then [k] else []
    | none => []

theorem kidsTo_hit {t : List Nd} {i k : Nat} {d : Nd} (h : t[k]? = some d) (hik : i < k) (hp : d.p = (i : Int)) : kidsTo t i (k + 1) = kidsTo t i k ++ [k] := by
  simp [kidsTo, h, hik, hp]
theorem kidsTo_miss {t : List Nd} {i k : Nat} {d : Nd} (h : t[k]? = some d) (hp : ¬ (i < k ∧ d.p = (i : Int))) : kidsTo t i (k + 1) = kidsTo t i k := by
  simp [kidsTo, h, hp]
theorem kidsTo_skip {t : List Nd} {i : Nat} : ∀ (a b : Nat), a ≤ b → (∀ (m : Nat) (d : Nd), a ≤ m → m < b → t[m]? = some d → ¬ (i < m ∧ d.p = (i : Int))) → kidsTo t i b = kidsTo t i a
  | a, 0, h, _ => by have : a = 0 := by omega
                     rw [this]
  | a, b + 1, h, hm => by
    by_cases e : a = b + 1
    · rw [e]
    · rw [← kidsTo_skip a b (by omega) (fun m d h1 h2 => hm m d h1 (by omega))]
      cases ht : t[b]? with
      | none => simp [kidsTo, ht]
      | some d => exact kidsTo_miss ht (hm b d (by omega) (by omega) ht)
theorem kidsTo_low {t : List Nd} {i : Nat} : kidsTo t i (i + 1) = [] := by
  have : ∀ k, k ≤ i + 1 → kidsTo t i k = [] := by
    intro k
    induction k with
    | zero => intro _; rfl
    | succ k ih =>
      intro hk
      have h1 := ih (by omega)
      simp only [kidsTo, h1, List.nil_append]
      cases ht : t[k]? with
      | none => rfl
      | some d => simp; omega
  exact this _ (Nat.le_refl _)
theorem mem_kidsTo {t : List Nd} {i j : Nat} : ∀ {k : Nat}, j ∈ kidsTo t i k ↔ j < k ∧ i < j ∧ ∃ d, t[j]? = some d ∧ d.p = (i : Int)
  | 0 => by simp [kidsTo]
  | k + 1 => by
    unfold kidsTo
    rw [List.mem_append, mem_kidsTo (k := k)]
    cases ht : t[k]? with
    | none =>
      simp only [List.not_mem_nil, or_false]
      constructor
      · rintro ⟨h1, h2, d, h3, h4⟩; exact ⟨by omega, h2, d, h3, h4⟩
      · rintro ⟨h1, h2, d, h3, h4⟩
        have : j ≠ k := by rintro rfl; rw [ht] at h3; cases h3
        exact ⟨by omega, h2, d, h3, h4⟩
    | some d =>
      by_cases hc : i < k ∧ d.p = (i : Int)
      · simp only [if_pos hc, List.mem_singleton]
        constructor
        · rintro (⟨h1, h2, h3⟩ | rfl)
          · exact ⟨by omega, h2, h3⟩
          · exact ⟨by omega, hc.1, d, ht, hc.2⟩
        · rintro ⟨h1, h2, h3⟩
          by_cases e : j = k
          · exact .inr e
          · exact .inl ⟨by omega, h2, h3⟩
      · simp only [if_neg hc, List.not_mem_nil, or_false]
        constructor
        · rintro ⟨h1, h2, h3⟩; exact ⟨by omega, h2, h3⟩
        · rintro ⟨h1, h2, d', h3, h4⟩
          have : j ≠ k := by
            rintro rfl
            rw [ht] at h3
            rw [← Option.some.inj h3] at h4
            exact hc ⟨h2, h4⟩
          exact ⟨by omega, h2, d', h3, h4⟩
theorem kidsTo_le {t : List Nd} {i : Nat} : ∀ k, (kidsTo t i k).length ≤ k
  | 0 => Nat.le_refl _
  | k + 1 => by
    unfold kidsTo
    have := kidsTo_le (t := t) (i := i) k
    rw [List.length_append]
    cases ht : t[k]? with
    | none => simp; omega
    | some d => simp only; split <;> simp <;> omega

end Go.Proofs.Ytfehfjnmkaifbab
