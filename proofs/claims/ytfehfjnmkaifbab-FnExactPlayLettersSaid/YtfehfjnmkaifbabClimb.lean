/-
  The way up from the node before: what it finds and when a node may be the next; leaves. Plain mathematics.
-/
import Derived.Test.YtfehfjnmkaifbabTri
namespace Go.Proofs.Ytfehfjnmkaifbab
set_option linter.unusedVariables false

/-- the branch that goes from y toward z -/
def BrOk (z y : Txt) (br : Int) : Prop := (y = z ∧ br = -1) ∨ ∃ c : UInt8, y ++ [c] <+: z ∧ br = (c.toNat : Int) - 97 ∧ 97 ≤ c.toNat ∧ c.toNat ≤ 122

/-- whatever the parent may be, it is at or above y -/
def Clim (ps : List Txt) (z : Txt) (p : Int) (y : Txt) : Prop := ∀ (j : Nat) (x : Txt), p = (j : Int) → ps[j]? = some x → x <+: z → x <+: y

theorem next_pre {t : List Nd} {k : Nat} {ps : List Txt} {z : Txt} (h : Tells t k ps) (hz : ps[k - 1]? = some z) {j : Nat} {x : Txt} {c : UInt8} (hj : ps[j]? = some x) (hb : bef z (x ++ [c]) = true) : x <+: z := by
  by_cases hp : x <+: z
  · exact hp
  · have hpos := h.pos
    rcases asc_last h.asc (k := k - 1) (by have := h.len; omega) hz x (at_mem hj) with e | e
    · rw [e] at hp; exact absurd (List.prefix_refl _) hp
    · have := bef_far [c] e hp
      rw [bef_asymm this] at hb
      cases hb

theorem climb_exit {ps : List Txt} {k j : Nat} {z y : Txt} {l p br : Int} {e : Bool} (hy : ps[j]? = some y) (hp : p = (j : Int)) (hj : j < k) (hb : BrOk z y br) : NextOk ps k z ⟨l, p, e⟩ ↔ br < l ∧ l < 26 := by
  constructor
  · rintro ⟨j', x, c, hp', hj', hl, c0, c1, e1, hbef⟩
    simp only at hp' hl
    have : j' = j := by omega
    subst this
    rw [hy] at e1
    obtain rfl := Option.some.inj e1
    rcases hb with ⟨rfl, hbr⟩ | ⟨c', ⟨r, rfl⟩, hbr, c0', c1'⟩
    · omega
    · rw [List.append_assoc, bef_app] at hbef
      simp only [List.cons_append, List.nil_append, bef] at hbef
      by_cases he : c' = c
      · rw [if_pos he] at hbef; cases hbef
      · rw [if_neg he] at hbef
        simp only [decide_eq_true_eq, UInt8.lt_iff_toNat_lt] at hbef
        omega
  · rintro ⟨h1, h2⟩
    have h0 : -1 ≤ br := by
      rcases hb with ⟨_, h⟩ | ⟨c', _, h, c0', _⟩ <;> omega
    have hc : (UInt8.ofNat (l + 97).toNat).toNat = (l + 97).toNat := by
      rw [UInt8.toNat_ofNat']
      exact Nat.mod_eq_of_lt (by omega)
    refine ⟨j, y, UInt8.ofNat (l + 97).toNat, hp, hj, by rw [hc]; show l = _; omega, by rw [hc]; omega, by rw [hc]; omega, hy, ?_⟩
    rcases hb with ⟨rfl, hbr⟩ | ⟨c', ⟨r, rfl⟩, hbr, c0', c1'⟩
    · exact bef_longer _ (by simp)
    · rw [List.append_assoc, bef_app]
      simp only [List.cons_append, List.nil_append, bef]
      have : ¬ c' = UInt8.ofNat (l + 97).toNat := fun e => by
        rw [e, hc] at hbr; omega
      rw [if_neg this]
      simp only [decide_eq_true_eq, UInt8.lt_iff_toNat_lt]
      rw [hc]; omega

theorem climb_root {t : List Nd} {ps : List Txt} {k : Nat} {z : Txt} {l p : Int} {e : Bool} (h : Tells t k ps) (hz : ps[k - 1]? = some z) (hp : p ≠ 0) (hc : Clim ps z p []) : ¬ NextOk ps k z ⟨l, p, e⟩ := by
  rintro ⟨j', x, c, hp', hj', hl, c0, c1, e1, hbef⟩
  simp only at hp' hl
  have := hc j' x hp' e1 (next_pre h hz e1 hbef)
  rw [List.prefix_nil] at this
  subst this
  have := asc_inj h.asc e1 h.nil
  omega

theorem clim_start (ps : List Txt) (z : Txt) (p : Int) : Clim ps z p z := fun _ _ _ _ h => h

theorem clim_step {t : List Nd} {ps : List Txt} {k j : Nat} {z y : Txt} {c : UInt8} {p : Int} (h : Tells t k ps) (hj : ps[j]? = some (y ++ [c])) (hp : p ≠ (j : Int)) (hc : Clim ps z p (y ++ [c])) : Clim ps z p y := by
  intro j' x e1 e2 e3
  rcases List.prefix_concat_iff.1 (by simpa using hc j' x e1 e2 e3) with e | e
  · rw [e] at e2
    have := asc_inj h.asc e2 hj
    omega
  · exact e

theorem tells_len {t : List Nd} {k : Nat} {ps : List Txt} (h : Tells t k ps) : ∀ (i : Nat) (x : Txt), ps[i]? = some x → x.length ≤ i := by
  intro i
  induction i using Nat.strongRecOn with
  | ind i ih =>
    intro x hx
    by_cases h0 : i = 0
    · subst h0; rw [h.nil] at hx; cases hx; exact Nat.le_refl _
    · have hi : i < k := by have := h.len; have := (List.getElem?_eq_some_iff.1 hx).1; omega
      obtain ⟨d, x', hd, hx'⟩ := h.at hi
      obtain ⟨j, y, c, hp, hj, hl, c0, c1, e1, e2⟩ := h.step i d (by omega) hi hd
      rw [e2] at hx
      obtain rfl := Option.some.inj hx
      have := ih j hj y e1
      simp
      omega

/-- each node but the first has a word at or below it -/
def Worded (t : List Nd) (ps : List Txt) : Prop := ∀ (i : Nat) (x : Txt), 1 ≤ i → ps[i]? = some x → ∃ (j : Nat) (y : Txt) (d : Nd), ps[j]? = some y ∧ t[j]? = some d ∧ d.e = true ∧ x <+: y

/-- no node behind has this one as its parent -/
def Leaf (t : List Nd) (i : Nat) : Prop := i + 1 = t.length ∨ ∃ d, t[i + 1]? = some d ∧ d.p ≠ (i : Int)

theorem leaf_word {t : List Nd} {ps : List Txt} (h : Tells t t.length ps) (hw : Worded t ps) {i : Nat} {d : Nd} (h1 : 1 ≤ i) (hd : t[i]? = some d) (hl : Leaf t i) : d.e = true := by
  have hi : i < t.length := (List.getElem?_eq_some_iff.1 hd).1
  obtain ⟨d', x, hd', hx⟩ := h.at hi
  rw [hd] at hd'
  obtain rfl := Option.some.inj hd'
  obtain ⟨j, y, dj, hy, hdj, he, hp⟩ := hw i x h1 hx
  by_cases hij : i = j
  · subst hij
    rw [hd] at hdj
    rw [Option.some.inj hdj]; exact he
  · exfalso
    have hne : x ≠ y := fun e => hij (asc_inj h.asc hx (by rw [e]; exact hy))
    have hlt := asc_pos h.asc hx hy (bef_pre hp hne)
    have hjl : j < t.length := (List.getElem?_eq_some_iff.1 hdj).1
    rcases hl with hl | ⟨dn, hdn, hpn⟩
    · omega
    · obtain ⟨_, u, _, hu⟩ := h.at (show i + 1 < t.length by omega)
      have hxu : x <+: u := pre_between' (asc_le h.asc hx hu (by omega)) (asc_le h.asc hu hy (by omega)) hp
      obtain ⟨q, v, c, hq, hqi, _, _, _, f1, f2⟩ := h.step (i + 1) dn (by omega) (by omega) hdn
      rw [hu] at f2
      obtain rfl := Option.some.inj f2
      rcases List.prefix_concat_iff.1 (by simpa using hxu) with e | e
      · rw [e] at hx
        have := asc_inj h.asc hx hu
        omega
      · have hvx : v = x := by
          by_cases hqe : q = i
          · subst hqe; rw [hx] at f1; exact (Option.some.inj f1).symm
          · have hb := asc_lt h.asc f1 hx (by omega)
            have hl := e.length_le
            rcases Nat.lt_or_ge x.length v.length with hlt | hge
            · have := bef_pre e (by rintro rfl; omega)
              rw [bef_asymm this] at hb; cases hb
            · exact (e.eq_of_length (by omega)).symm
        rw [hvx] at f1
        have := asc_inj h.asc f1 hx
        omega

theorem word_leaf {t : List Nd} {ps : List Txt} (h : Tells t t.length ps) (hl : ∀ (i : Nat) (d : Nd), 1 ≤ i → t[i]? = some d → Leaf t i → d.e = true) : Worded t ps := by
  have key : ∀ (f i : Nat) (x : Txt), t.length ≤ i + f → 1 ≤ i → ps[i]? = some x → ∃ (j : Nat) (y : Txt) (d : Nd), ps[j]? = some y ∧ t[j]? = some d ∧ d.e = true ∧ x <+: y := by
    intro f
    induction f with
    | zero =>
      intro i x hf h1 hx
      have := h.len
      have := (List.getElem?_eq_some_iff.1 hx).1
      omega
    | succ f ih =>
      intro i x hf h1 hx
      have hi : i < t.length := by have := h.len; have := (List.getElem?_eq_some_iff.1 hx).1; omega
      obtain ⟨d, _, hd, _⟩ := h.at hi
      by_cases hlf : Leaf t i
      · exact ⟨i, x, d, hx, hd, hl i d h1 hd hlf, List.prefix_refl _⟩
      · have hi1 : i + 1 < t.length := by
          rcases Nat.lt_or_ge (i + 1) t.length with c | c
          · exact c
          · exact absurd (.inl (by omega)) hlf
        obtain ⟨dn, u, hdn, hu⟩ := h.at hi1
        have hpn : dn.p = (i : Int) := by
          by_cases c : dn.p = (i : Int)
          · exact c
          · exact absurd (.inr ⟨dn, hdn, c⟩) hlf
        obtain ⟨q, v, c, hq, hqi, _, _, _, f1, f2⟩ := h.step (i + 1) dn (by omega) hi1 hdn
        have : q = i := by omega
        subst this
        rw [hx] at f1
        obtain rfl := Option.some.inj f1
        obtain ⟨j, y, d', e1, e2, e3, e4⟩ := ih (q + 1) _ (by omega) (by omega) f2
        exact ⟨j, y, d', e1, e2, e3, (List.prefix_append _ _).trans e4⟩
  exact fun i x h1 hx => key t.length i x (by omega) h1 hx

end Go.Proofs.Ytfehfjnmkaifbab
