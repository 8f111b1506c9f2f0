/-
  The choices of a descent in a trie, and their products on the way to a node: plain mathematics.
-/
import Derived.Test.YthjafoacnfgjhacKids
import Derived.Test.YthjafoacnfgjhacWordsN
import Derived.Test.YthjafoacnfgjhacFr
namespace Go.Proofs.Ythjafoacnfgjhac
set_option linter.unusedVariables false
set_option linter.unusedSimpArgs false

/-- the parent of a node, and whether a word ends there -/
def paI (t : List Nd) (i : Nat) : Int := match t[i]? with | some d => d.p | none => -1
def enI (t : List Nd) (i : Nat) : Bool := match t[i]? with | some d => d.e | none => false
theorem paI_at {t : List Nd} {i : Nat} {d : Nd} (h : t[i]? = some d) : paI t i = d.p := by simp [paI, h]
theorem enI_at {t : List Nd} {i : Nat} {d : Nd} (h : t[i]? = some d) : enI t i = d.e := by simp [enI, h]

/-- the choices at a node -/
def chI (t : List Nd) (i : Nat) : Nat := (kidsTo t i t.length).length + (if enI t i = true then 1 else 0)

/-- the product of the choices from a node up -/
def wq (t : List Nd) : Nat → Int → Nat
  | 0, _ => 1
  | f + 1, i => if i < 0 then 1 else chI t i.toNat * wq t f (paI t i.toNat)
def wqi (t : List Nd) (p : Int) : Nat := wq t (p + 1).toNat p

theorem paI_zero {t : List Nd} {ps : List Txt} (h : Tells t t.length ps) : paI t 0 = -1 := by
  obtain ⟨e, h0⟩ := h.root
  rw [paI_at h0]
theorem paI_up {t : List Nd} {ps : List Txt} (h : Tells t t.length ps) {i : Nat} (h1 : 1 ≤ i) (hi : i < t.length) : ∃ (j : Nat) (x : Txt) (c : UInt8), paI t i = (j : Int) ∧ j < i ∧ ps[j]? = some x ∧ ps[i]? = some (x ++ [c]) := by
  obtain ⟨d, x, hd, hx⟩ := h.at hi
  obtain ⟨j, y, c, hp, hj, _, _, _, e1, e2⟩ := h.step i d h1 hi hd
  exact ⟨j, y, c, by rw [paI_at hd, hp], hj, e1, e2⟩
theorem paI_lt {t : List Nd} {ps : List Txt} (h : Tells t t.length ps) {i : Nat} (hi : i < t.length) : -1 ≤ paI t i ∧ paI t i < (i : Int) := by
  by_cases h1 : 1 ≤ i
  · obtain ⟨j, x, c, hp, hj, _⟩ := paI_up h h1 hi
    omega
  · have : i = 0 := by omega
    subst this
    rw [paI_zero h]
    omega

theorem wq_fuel {t : List Nd} {ps : List Txt} (h : Tells t t.length ps) : ∀ (f : Nat) (p : Int), p < t.length → (p + 1).toNat ≤ f → wq t f p = wqi t p := by
  intro f
  induction f using Nat.strongRecOn with
  | ind f ih =>
    intro p hp hf
    by_cases h0 : p < 0
    · have e : (p + 1).toNat = 0 := by omega
      unfold wqi
      rw [e]
      cases f with
      | zero => rfl
      | succ f => simp [wq, h0]
    · obtain ⟨i, rfl⟩ : ∃ i : Nat, p = (i : Int) := ⟨p.toNat, by omega⟩
      have e : ((i : Int) + 1).toNat = i + 1 := by omega
      rw [e] at hf
      have hpa := paI_lt h (i := i) (by omega)
      unfold wqi
      rw [e]
      cases f with
      | zero => omega
      | succ f =>
        simp only [wq, if_neg h0, Int.toNat_natCast]
        congr 1
        by_cases hfi : f = i
        · rw [hfi]
        · rw [ih f (by omega) (paI t i) (by omega) (by omega), ih i (by omega) (paI t i) (by omega) (by omega)]
theorem wqi_step {t : List Nd} {ps : List Txt} (h : Tells t t.length ps) {i : Nat} (hi : i < t.length) : wqi t (i : Int) = chI t i * wqi t (paI t i) := by
  have hpa := paI_lt h hi
  have e : ((i : Int) + 1).toNat = i + 1 := by omega
  have e1 : wqi t (i : Int) = chI t i * wq t i (paI t i) := by
    unfold wqi
    rw [e]
    simp only [wq, Int.toNat_natCast]
    rw [if_neg (by omega)]
  rw [e1, wq_fuel h i (paI t i) (by omega) (by omega)]
theorem wqi_end (t : List Nd) {p : Int} (h : p < 0) : wqi t p = 1 := by
  unfold wqi
  have e : (p + 1).toNat = 0 := by omega
  rw [e]
  rfl

/-- all choices together -/
def prodTo (t : List Nd) : Nat → Nat
  | 0 => 1
  | k + 1 => prodTo t k * chI t k
theorem prodTo_dvd (t : List Nd) : ∀ {k m : Nat}, k ≤ m → prodTo t k ∣ prodTo t m
  | k, 0, h => by have : k = 0 := by omega
                  subst this; exact Nat.dvd_refl _
  | k, m + 1, h => by
    by_cases e : k = m + 1
    · subst e; exact Nat.dvd_refl _
    · exact Nat.dvd_trans (prodTo_dvd t (show k ≤ m by omega)) (Nat.dvd_mul_right _ _)
theorem wqi_dvd {t : List Nd} {ps : List Txt} (h : Tells t t.length ps) : ∀ (i : Nat), i < t.length → wqi t (i : Int) ∣ prodTo t (i + 1) := by
  intro i
  induction i using Nat.strongRecOn with
  | ind i ih =>
    intro hi
    rw [wqi_step h hi]
    show chI t i * wqi t (paI t i) ∣ prodTo t i * chI t i
    rw [Nat.mul_comm]
    apply Nat.mul_dvd_mul _ (Nat.dvd_refl _)
    have hpa := paI_lt h hi
    by_cases h0 : paI t i < 0
    · rw [wqi_end t h0]; exact Nat.one_dvd _
    · obtain ⟨j, hj⟩ : ∃ j : Nat, paI t i = (j : Int) := ⟨(paI t i).toNat, by omega⟩
      rw [hj] at hpa ⊢
      exact Nat.dvd_trans (ih j (by omega) (by omega)) (prodTo_dvd t (by omega))

/-- how many kids some nodes have, of the first nodes -/
def sumK (t : List Nd) (m : Nat) : Nat → Nat
  | 0 => 0
  | k + 1 => sumK t m k + (kidsTo t k m).length
theorem sumK_zero (t : List Nd) : ∀ k, sumK t 0 k = 0
  | 0 => rfl
  | k + 1 => by simp [sumK, sumK_zero t k, kidsTo]
theorem sumK_succ {t : List Nd} {m : Nat} {d : Nd} (h : t[m]? = some d) : ∀ k, sumK t (m + 1) k = sumK t m k + if 0 ≤ d.p ∧ d.p < (k : Int) ∧ d.p < (m : Int) then 1 else 0
  | 0 => by
    simp only [sumK]
    rw [if_neg (by omega)]
  | k + 1 => by
    simp only [sumK]
    rw [sumK_succ h k]
    by_cases hk : k < m ∧ d.p = (k : Int)
    · rw [kidsTo_hit h hk.1 hk.2, List.length_append, if_neg (by omega), if_pos (by omega)]
      simp only [List.length_cons, List.length_nil]
      omega
    · rw [kidsTo_miss h hk]
      by_cases hc : 0 ≤ d.p ∧ d.p < (k : Int) ∧ d.p < (m : Int)
      · rw [if_pos hc, if_pos (by omega)]; omega
      · rw [if_neg hc, if_neg (by omega)]
        omega
theorem sumK_all {t : List Nd} {ps : List Txt} (h : Tells t t.length ps) : ∀ m, m ≤ t.length → sumK t m t.length = m - 1
  | 0, _ => sumK_zero t _
  | m + 1, hm => by
    obtain ⟨d, x, hd, _⟩ := h.at (show m < t.length by omega)
    rw [sumK_succ hd, sumK_all h m (by omega)]
    have hpa := paI_lt h (i := m) (by omega)
    rw [paI_at hd] at hpa
    by_cases h1 : 1 ≤ m
    · obtain ⟨j, y, c, hp, hj, _⟩ := paI_up h h1 (by omega)
      rw [paI_at hd] at hp
      rw [if_pos (by omega)]
      omega
    · have : m = 0 := by omega
      subst this
      rw [if_neg (by omega)]

def sumC (t : List Nd) : Nat → Nat
  | 0 => 0
  | k + 1 => sumC t k + chI t k
theorem sumC_is (t : List Nd) : ∀ k, k ≤ t.length → sumC t k = sumK t t.length k + ends (t.take k)
  | 0, _ => by simp [sumC, sumK, ends]
  | k + 1, hk => by
    obtain ⟨d, hd⟩ : ∃ d, t[k]? = some d := ⟨_, List.getElem?_eq_getElem (by omega)⟩
    simp only [sumC, sumK, chI]
    rw [sumC_is t k (by omega), ends_succ hd, enI_at hd]
    omega
theorem sumC_all {t : List Nd} {ps : List Txt} (h : Tells t t.length ps) : sumC t t.length + 1 = t.length + ends t := by
  have hp := h.pos
  rw [sumC_is t _ (Nat.le_refl _), sumK_all h _ (Nat.le_refl _), List.take_length]
  omega

theorem two_pow (c : Nat) (h : 1 ≤ c) : c ≤ 2 ^ (c - 1) := by
  have := Nat.lt_two_pow_self (n := c - 1)
  omega
theorem prod_le {t : List Nd} : ∀ k, (∀ i, i < k → 1 ≤ chI t i) → k ≤ sumC t k ∧ prodTo t k ≤ 2 ^ (sumC t k - k)
  | 0, _ => by simp [sumC, prodTo]
  | k + 1, h => by
    obtain ⟨h1, h2⟩ := prod_le k (fun i hi => h i (by omega))
    have hc := h k (by omega)
    have h3 := two_pow (chI t k) hc
    simp only [sumC, prodTo]
    refine ⟨by omega, Nat.le_trans (Nat.mul_le_mul h2 h3) ?_⟩
    rw [← Nat.pow_add]
    exact Nat.pow_le_pow_right (by omega) (by omega)

/-- at each node of a trie with words there is a choice -/
theorem chI_pos {t : List Nd} {ps : List Txt} (hv : Valid t ps) (hw : 0 < (wds t ps).length) {i : Nat} (hi : i < t.length) : 1 ≤ chI t i := by
  obtain ⟨d, x, hd, hx⟩ := hv.tells.at hi
  unfold chI
  by_cases he : d.e = true
  · rw [enI_at hd, if_pos he]; omega
  · have hne : x ∉ wds t ps := fun hm => by
      obtain ⟨j, d2, h1, h2, h3⟩ := mem_wds.1 hm
      have := asc_inj hv.tells.asc h2 hx
      subst this
      rw [hd] at h1
      obtain rfl := Option.some.inj h1
      exact he h3
    have : ∃ w ∈ wds t ps, x <+: w := by
      rcases (hv.pre.mem x).1 (at_mem hx) with e | h
      · obtain ⟨w, hw'⟩ : ∃ w, w ∈ wds t ps := by
          cases hc : wds t ps with
          | nil => rw [hc] at hw; simp at hw
          | cons w r => exact ⟨w, List.mem_cons_self⟩
        exact ⟨w, hw', by rw [e]; exact List.nil_prefix⟩
      · exact h
    obtain ⟨w, hwm, hp⟩ := this
    have hxw : x ≠ w := fun e => hne (e ▸ hwm)
    obtain ⟨r, hr⟩ := hp
    cases r with
    | nil => rw [List.append_nil] at hr; exact absurd hr hxw
    | cons c r =>
      have hk : x ++ [c] ∈ ps := (hv.pre.mem _).2 (.inr ⟨w, hwm, r, by rw [← hr]; simp⟩)
      obtain ⟨j, hj⟩ := List.getElem?_of_mem hk
      have hjl : j < t.length := by have := hv.lenEq; have := (List.getElem?_eq_some_iff.1 hj).1; omega
      obtain ⟨d2, hd2⟩ : ∃ d2, t[j]? = some d2 := ⟨_, List.getElem?_eq_getElem hjl⟩
      have hij : i < j := by
        apply Classical.byContradiction
        intro hn
        by_cases e : j = i
        · subst e
          rw [hx] at hj
          have := congrArg List.length (Option.some.inj hj)
          simp at this
        · have h1 := asc_lt hv.tells.asc hj hx (by omega)
          rw [bef_asymm (bef_pre (List.prefix_append x [c]) (fun e => by have := congrArg List.length e; simp at this))] at h1
          cases h1
      have hm : j ∈ kidsTo t i t.length := mem_kidsTo.2 ⟨hjl, hij, d2, hd2, (par_iff hv.tells hx (by omega) hd2).2 ⟨c, hj⟩⟩
      have := List.length_pos_of_mem hm
      omega

theorem prod_bound {t : List Nd} {ps : List Txt} (hv : Valid t ps) (hw : 0 < (wds t ps).length) : 0 < prodTo t t.length ∧ prodTo t t.length ≤ 549755813888 := by
  have hpos : ∀ i, i < t.length → 1 ≤ chI t i := fun i hi => chI_pos hv hw hi
  have h1 := prod_le t.length hpos
  have h2 := sumC_all hv.tells
  have h3 := hv.few
  have h4 : prodTo t t.length ≤ 2 ^ 39 := Nat.le_trans h1.2 (Nat.pow_le_pow_right (by omega) (by omega))
  refine ⟨?_, h4⟩
  suffices h : ∀ k, k ≤ t.length → 0 < prodTo t k from h _ (Nat.le_refl _)
  intro k
  induction k with
  | zero => intro _; exact Nat.one_pos
  | succ k ih => intro hk; exact Nat.mul_pos (ih (by omega)) (hpos k (by omega))

theorem wqi_bound {t : List Nd} {ps : List Txt} (hv : Valid t ps) (hw : 0 < (wds t ps).length) {i : Nat} (hi : i < t.length) : 0 < wqi t (i : Int) ∧ wqi t (i : Int) ≤ 549755813888 ∧ wqi t (i : Int) ∣ prodTo t t.length := by
  obtain ⟨h1, h2⟩ := prod_bound hv hw
  have h3 : wqi t (i : Int) ∣ prodTo t t.length := Nat.dvd_trans (wqi_dvd hv.tells i hi) (prodTo_dvd t (by omega))
  exact ⟨Nat.pos_of_dvd_of_pos h3 h1, Nat.le_trans (Nat.le_of_dvd h1 h3) h2, h3⟩

end Go.Proofs.Ythjafoacnfgjhac
