/-
  The branches of a pressed tree in their order: plain mathematics.
-/
import Derived.Test.YtoofpgehkihbcaaPrM
namespace Go.Proofs.Ytoofpgehkihbcaa
set_option linter.unusedVariables false

structure Br where
  l : Txt
  p : Int
  e : Bool

theorem Br.eq {a b : Br} (h1 : a.l = b.l) (h2 : a.p = b.p) (h3 : a.e = b.e) : a = b := by
  cases a; cases b; simp_all

/-- the branch of a text that stays -/
def brOf (qs : List Txt) (en : Txt → Bool) (y : Txt) : Br := ⟨y.drop (up qs y).length, if y = [] then -1 else (qs.idxOf (up qs y) : Int), en y⟩

def brs (qs : List Txt) (en : Txt → Bool) : List Br := qs.map (brOf qs en)

theorem brs_len (qs : List Txt) (en : Txt → Bool) : (brs qs en).length = qs.length := by simp [brs]
theorem brs_at {qs : List Txt} {en : Txt → Bool} {i : Nat} {y : Txt} (h : qs[i]? = some y) : (brs qs en)[i]? = some (brOf qs en y) := by simp [brs, h]
theorem brs_same {qs : List Txt} {en en' : Txt → Bool} (h : ∀ y, y ∈ qs → en y = en' y) : brs qs en = brs qs en' := by
  unfold brs
  refine List.map_congr_left fun y hy => ?_
  unfold brOf
  rw [h y hy]

/-- the pressed tree of some words -/
def prw (ws : List Txt) : List Br := brs (stl ws) (fun x => decide (x ∈ ws))

theorem prw_of {ws qs : List Txt} (h : Sta ws qs) : brs qs (fun x => decide (x ∈ ws)) = prw ws := by unfold prw; rw [h.uniq (stl_sta ws)]
theorem stl_same {ws us : List Txt} (h : ∀ x, x ∈ ws ↔ x ∈ us) : stl ws = stl us := ((stl_sta ws).same h).uniq (stl_sta us)
theorem prw_same {ws us : List Txt} (h : ∀ x, x ∈ ws ↔ x ∈ us) : prw ws = prw us := by
  unfold prw
  rw [stl_same h]
  exact brs_same fun y _ => decide_eq_decide.2 (h y)
theorem prw_len (ws : List Txt) : (prw ws).length = (stl ws).length := by unfold prw; rw [brs_len]
theorem prw_few (ws : List Txt) : (prw ws).length ≤ 2 * ws.length + 1 := by rw [prw_len]; exact stl_few ws

/-- all that begin with a text stand together -/
structure Blk (qs : List Txt) (i b : Nat) : Prop where
  lt : i < b
  le : b ≤ qs.length
  iff : ∀ (x : Txt), qs[i]? = some x → ∀ (m : Nat) (z : Txt), qs[m]? = some z → (x <+: z ↔ i ≤ m ∧ m < b)

/-- the kids of a text, ascending -/
def KL (qs : List Txt) (x : Txt) (ks : List Txt) : Prop := Asc ks ∧ ∀ y, y ∈ ks ↔ Kd qs x y

theorem KL.uniq {qs ks ls : List Txt} {x : Txt} (h : KL qs x ks) (g : KL qs x ls) : ks = ls := asc_ext h.1 g.1 fun y => by rw [h.2, g.2]

/-- the first j kids, and what begins with them, stand before k; the others from k on -/
structure KJ (qs : List Txt) (i : Nat) (x : Txt) (ks : List Txt) (j k : Nat) : Prop where
  lt : i < k
  le : k ≤ qs.length
  iff : ∀ (m : Nat) (z : Txt), qs[m]? = some z → (i ≤ m ∧ m < k ↔ z = x ∨ ∃ q y, q < j ∧ ks[q]? = some y ∧ y <+: z)

section
variable {qs ks : List Txt} {x : Txt} {i j k : Nat}

theorem KJ.start (ha : Asc qs) (hx : qs[i]? = some x) : KJ qs i x ks 0 (i + 1) :=
  ⟨by omega, (List.getElem?_eq_some_iff.1 hx).1, fun m z hz => by
    constructor
    · rintro ⟨h1, h2⟩
      obtain rfl : m = i := by omega
      rw [hx] at hz
      exact .inl (Option.some.inj hz).symm
    · rintro (rfl | ⟨q, y, h, _⟩)
      · have := asc_inj ha hz hx; omega
      · omega⟩

theorem kl_far (hc : Closed qs) (hk : KL qs x ks) {q r : Nat} {y v z : Txt} (hy : ks[q]? = some y) (hv : ks[r]? = some v) (h1 : y <+: z) (h2 : v <+: z) : q = r := by
  have ky := (hk.2 y).1 (at_mem hy)
  have kv := (hk.2 v).1 (at_mem hv)
  obtain ⟨c, hcy⟩ := pre_next ky.2.2.1 ky.2.2.2.1
  obtain ⟨f, hfv⟩ := pre_next kv.2.2.1 kv.2.2.2.1
  have e := letter_same (hcy.trans h1) (hfv.trans h2)
  subst e
  have e := kd_same hc ky kv hcy hfv
  subst e
  exact asc_inj hk.1 hy hv

theorem KJ.kid (ha : Asc qs) (hc : Closed qs) (hx : qs[i]? = some x) (hk : KL qs x ks) (h : KJ qs i x ks j k) {y : Txt} (hy : ks[j]? = some y) : qs[k]? = some y := by
  have ky := (hk.2 y).1 (at_mem hy)
  obtain ⟨p, hp⟩ := mem_at ky.2.1
  have hxy := ky.2.2.1
  have hxp : i < p := asc_pos ha hx hp (bef_pre hxy ky.2.2.2.1)
  have hpk : ¬ p < k := fun hlt => by
    rcases (h.iff p y hp).1 ⟨by omega, hlt⟩ with e | ⟨q, v, hq, hv, hvy⟩
    · exact ky.2.2.2.1 e.symm
    · have := kl_far hc hk hv hy hvy (List.prefix_refl _)
      omega
  rcases Nat.lt_or_eq_of_le (Nat.le_of_not_lt hpk) with hlt | rfl
  · exfalso
    have hkl : k < qs.length := by have := (List.getElem?_eq_some_iff.1 hp).1; omega
    obtain ⟨z, hz⟩ : ∃ z, qs[k]? = some z := ⟨_, List.getElem?_eq_getElem hkl⟩
    have b1 := asc_lt ha hx hz h.lt
    have b2 := asc_lt ha hz hp hlt
    have hxz := pre_between b1 b2 hxy
    obtain ⟨c, hcz⟩ := pre_next hxz (bef_ne b1)
    obtain ⟨v, hv1, hv2, hv3⟩ := kd_find ky.1 z.length z rfl (at_mem hz) hcz
    obtain ⟨q, hq⟩ := mem_at ((hk.2 v).2 hv1)
    rcases Nat.lt_trichotomy q j with hqj | hqj | hqj
    · have := (h.iff k z hz).2 (.inr ⟨q, v, hqj, hq, hv3⟩)
      omega
    · subst hqj
      rw [hy] at hq
      obtain rfl := Option.some.inj hq
      by_cases e : y = z
      · rw [e, bef_irrefl] at b2; cases b2
      · rw [bef_asymm (bef_pre hv3 e)] at b2; cases b2
    · have b3 := asc_lt hk.1 hy hq hqj
      have b4 : bef y z = true := by
        by_cases e : v = z
        · rw [← e]; exact b3
        · exact bef_trans b3 (bef_pre hv3 e)
      rw [bef_asymm b4] at b2; cases b2
  · exact hp

theorem KJ.next (ha : Asc qs) (hc : Closed qs) (hx : qs[i]? = some x) (hk : KL qs x ks) (h : KJ qs i x ks j k) {y : Txt} (hy : ks[j]? = some y) {b : Nat} (hb : Blk qs k b) : KJ qs i x ks (j + 1) b := by
  have hky := h.kid ha hc hx hk hy
  have h1 := h.lt
  have h2 := hb.lt
  refine ⟨by omega, hb.le, fun m z hz => ?_⟩
  have e1 := h.iff m z hz
  have e2 := hb.iff y hky m z hz
  constructor
  · rintro ⟨h3, h4⟩
    by_cases hm : m < k
    · rcases e1.1 ⟨h3, hm⟩ with e | ⟨q, v, hq, hv, hp⟩
      · exact .inl e
      · exact .inr ⟨q, v, by omega, hv, hp⟩
    · exact .inr ⟨j, y, by omega, hy, e2.2 ⟨by omega, h4⟩⟩
  · rintro (e | ⟨q, v, hq, hv, hp⟩)
    · have := e1.2 (.inl e); omega
    · by_cases hqj : q < j
      · have := e1.2 (.inr ⟨q, v, hqj, hv, hp⟩); omega
      · obtain rfl : q = j := by omega
        rw [hy] at hv
        obtain rfl := Option.some.inj hv
        have := e2.1 hp
        omega

theorem KJ.stop (hx : qs[i]? = some x) (hk : KL qs x ks) (h : KJ qs i x ks ks.length k) : Blk qs i k :=
  ⟨h.lt, h.le, fun x' hx' m z hz => by
    rw [hx] at hx'
    obtain rfl := Option.some.inj hx'
    rw [h.iff m z hz]
    constructor
    · intro hp
      by_cases e : z = x
      · exact .inl e
      · obtain ⟨c, hcz⟩ := pre_next hp (fun e' => e e'.symm)
        obtain ⟨v, hv1, hv2, hv3⟩ := kd_find (at_mem hx) z.length z rfl (at_mem hz) hcz
        obtain ⟨q, hq⟩ := mem_at ((hk.2 v).2 hv1)
        exact .inr ⟨q, v, (List.getElem?_eq_some_iff.1 hq).1, hq, hv3⟩
    · rintro (e | ⟨q, v, _, hv, hp⟩)
      · rw [e]; exact List.prefix_refl _
      · exact ((hk.2 v).1 (at_mem hv)).2.2.1.trans hp⟩

theorem blk_root (hr : qs[0]? = some []) {b : Nat} (h : Blk qs 0 b) : b = qs.length := by
  have h1 := h.le
  by_cases hl : b < qs.length
  · have := (h.iff [] hr b _ (List.getElem?_eq_getElem hl)).1 List.nil_prefix
    omega
  · omega

/-- the kids of a text, as a list -/
def kidsL (qs : List Txt) (x : Txt) : List Txt := qs.filter fun y => decide (y ≠ [] ∧ up qs y = x)

theorem kidsL_kl (ha : Asc qs) (hr : [] ∈ qs) (x : Txt) : KL qs x (kidsL qs x) := by
  refine ⟨asc_filter _ ha, fun y => ?_⟩
  unfold kidsL
  rw [List.mem_filter, decide_eq_true_eq]
  constructor
  · rintro ⟨h1, h2, h3⟩
    rw [← h3]; exact up_kd hr h1 h2
  · intro h
    exact ⟨h.2.1, kd_not_nil h, kd_up hr h⟩

theorem KL.eq (ha : Asc qs) (hr : [] ∈ qs) (h : KL qs x ks) : ks = kidsL qs x := h.uniq (kidsL_kl ha hr x)

end

/-- what the branch of a kid is -/
theorem brOf_kid {qs : List Txt} {en : Txt → Bool} (ha : Asc qs) (hr : [] ∈ qs) {x y : Txt} {i : Nat} (hx : qs[i]? = some x) (h : Kd qs x y) : brOf qs en y = ⟨y.drop x.length, (i : Int), en y⟩ := by
  unfold brOf
  rw [if_neg (kd_not_nil h), kd_up hr h]
  have := asc_inj ha (idx_at (at_mem hx)) hx
  rw [this]
theorem brOf_root {qs : List Txt} {en : Txt → Bool} : brOf qs en [] = ⟨[], -1, en []⟩ := by simp [brOf]

end Go.Proofs.Ytoofpgehkihbcaa
