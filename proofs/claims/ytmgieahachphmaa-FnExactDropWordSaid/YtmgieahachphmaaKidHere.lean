/-
  The kids of a node one after another, told by the next letter: plain mathematics.
-/
import Derived.Test.YtmgieahachphmaaTwig
import Derived.Test.YtmgieahachphmaaKids
namespace Go.Proofs.Ytmgieahachphmaa
set_option linter.unusedVariables false

/-- all kids with letters below lo, and what is under them, stand before k; the others from k on -/
structure KH (t : List Nd) (ps : List Txt) (i : Nat) (x : Txt) (lo k : Nat) : Prop where
  lt : i < k
  le : k ≤ t.length
  all : ∀ (m : Nat) (z : Txt), i < m → m < k → ps[m]? = some z → x <+: z
  part : ∀ (c : UInt8) (m : Nat) (z : Txt), ps[m]? = some z → x ++ [c] <+: z → (c.toNat < lo ↔ m < k)

/-- all beginnings are there -/
def Shut (ps : List Txt) : Prop := ∀ (x : Txt) (c : UInt8), x ++ [c] ∈ ps → x ∈ ps

theorem Shut.up {ps : List Txt} (h : Shut ps) : ∀ (r y : Txt), y ++ r ∈ ps → y ∈ ps := by
  intro r
  obtain ⟨n, hn⟩ : ∃ n, r.length = n := ⟨_, rfl⟩
  induction n generalizing r with
  | zero =>
    intro y hy
    obtain rfl := List.length_eq_zero_iff.1 hn
    simpa using hy
  | succ n ih =>
    intro y hy
    have hne : r ≠ [] := by rintro rfl; simp at hn
    rw [← List.dropLast_concat_getLast hne, ← List.append_assoc] at hy
    exact ih r.dropLast (by simp [hn]) y (h _ _ hy)

theorem Shut.pre {ps : List Txt} (h : Shut ps) {y z : Txt} (hp : y <+: z) (hz : z ∈ ps) : y ∈ ps := by
  obtain ⟨r, rfl⟩ := hp
  exact h.up r y hz

theorem under_kid {x z : Txt} (h : x <+: z) (hne : x ≠ z) : ∃ f, x ++ [f] <+: z := by
  obtain ⟨r, rfl⟩ := h
  cases r with
  | nil => exact absurd (by simp) hne
  | cons f r => exact ⟨f, r, by simp⟩

theorem kid_same {x z : Txt} {c f : UInt8} (h : x ++ [c] <+: z) (k : x ++ [f] <+: z) : c = f := by
  obtain ⟨r, rfl⟩ := h
  obtain ⟨q, hq⟩ := k
  rw [List.append_assoc, List.append_assoc] at hq
  have : ([f] ++ q : Txt) = [c] ++ r := List.append_cancel_left hq
  simpa using (List.cons.inj this).1.symm

section
variable {t : List Nd} {ps : List Txt} {i k lo : Nat} {x : Txt}

theorem KH.start (h : Tells t t.length ps) (hx : ps[i]? = some x) : KH t ps i x 0 (i + 1) :=
  ⟨by omega, by have := h.len; have := (List.getElem?_eq_some_iff.1 hx).1; omega, fun m z h1 h2 => by omega, fun c m z hz hp => by
    have hb : bef x z = true := bef_pre ((List.prefix_append _ _).trans hp) (by
      rintro rfl
      have := hp.length_le
      simp at this
      omega)
    have := asc_pos h.asc hx hz hb
    omega⟩

theorem KH.kid (h : Tells t t.length ps) (hs : Shut ps) (hx : ps[i]? = some x) (hk : KH t ps i x lo k) {c : UInt8} (ho : IsNk ps x lo (some c)) : ps[k]? = some (x ++ [c]) := by
  obtain ⟨h1, h2, h3⟩ := ho
  obtain ⟨m, hm⟩ := mem_at h2
  have hkm : ¬ m < k := fun hlt => by
    have := (hk.part c m _ hm (List.prefix_refl _)).2 hlt
    omega
  rcases Nat.lt_or_eq_of_le (Nat.le_of_not_lt hkm) with hlt | rfl
  · exfalso
    have hkl : k < ps.length := by have := (List.getElem?_eq_some_iff.1 hm).1; omega
    obtain ⟨z, hz⟩ : ∃ z, ps[k]? = some z := ⟨_, List.getElem?_eq_getElem hkl⟩
    have b1 := asc_lt h.asc hx hz hk.lt
    have b2 := asc_lt h.asc hz hm hlt
    have hp := pre_between b1 b2 (List.prefix_append _ _)
    obtain ⟨f, hf⟩ := under_kid hp (bef_ne b1)
    have hfl : ¬ f.toNat < lo := fun hh => by
      have := (hk.part f k z hz hf).1 hh
      omega
    have hfm := hs.pre hf (at_mem hz)
    have hfc : ¬ f.toNat < c.toNat := fun hh => h3 f (by omega) hh hfm
    by_cases e : f = c
    · subst e
      by_cases e2 : x ++ [f] = z
      · rw [e2, bef_irrefl] at b2; cases b2
      · have := bef_pre hf e2
        rw [bef_asymm this] at b2
        cases b2
    · have hcf : c.toNat < f.toNat := by
        have : c.toNat ≠ f.toNat := fun hh => e (UInt8.toNat_inj.1 hh).symm
        omega
      obtain ⟨r, rfl⟩ := hf
      rw [List.append_assoc, bef_app] at b2
      have hne : ¬ f = c := e
      simp only [List.singleton_append, bef, if_neg hne, decide_eq_true_eq, UInt8.lt_iff_toNat_lt] at b2
      omega
  · exact hm

theorem KH.next (h : Tells t t.length ps) (hs : Shut ps) (hx : ps[i]? = some x) (hk : KH t ps i x lo k) {c : UInt8} (ho : IsNk ps x lo (some c)) {b : Nat} (hb : Behind t ps k b) : KH t ps i x (c.toNat + 1) b := by
  have hkc := hk.kid h hs hx ho
  obtain ⟨h1, h2, h3⟩ := ho
  have hlt := hk.lt
  have hkb := hb.lt
  refine ⟨by omega, hb.le, fun m z m1 m2 hz => ?_, fun f m z hz hf => ?_⟩
  · rcases Nat.lt_or_ge m k with hm | hm
    · exact hk.all m z m1 hm hz
    · exact (List.prefix_append _ _).trans ((hb.iff h hkc hz).2 ⟨hm, m2⟩)
  · have hp := hk.part f m z hz hf
    have hi := hb.iff h hkc hz
    have hfm := hs.pre hf (at_mem hz)
    by_cases hfl : f.toNat < lo
    · have := hp.1 hfl
      omega
    · have hfc : ¬ f.toNat < c.toNat := fun hh => h3 f (by omega) hh hfm
      by_cases e : f = c
      · subst e
        have := hi.1 hf
        omega
      · have : c.toNat ≠ f.toNat := fun hh => e (UInt8.toNat_inj.1 hh).symm
        constructor
        · intro; omega
        · intro hmb
          exact absurd (kid_same ((hi).2 ⟨by omega, hmb⟩) hf).symm e

theorem KH.stop (h : Tells t t.length ps) (hs : Shut ps) (hx : ps[i]? = some x) (hk : KH t ps i x lo k) (ho : IsNk ps x lo none) : Behind t ps i k :=
  ⟨hk.lt, hk.le, fun x' hx' m z m1 m2 hz => by
    rw [hx] at hx'
    rw [← Option.some.inj hx']
    exact hk.all m z m1 m2 hz, fun x' y' hx' hy' hp => by
    rw [hx] at hx'
    rw [← Option.some.inj hx'] at hp
    have b1 := asc_lt h.asc hx hy' hk.lt
    obtain ⟨f, hf⟩ := under_kid hp (bef_ne b1)
    have hfl : ¬ f.toNat < lo := fun hh => by
      have := (hk.part f k y' hy' hf).1 hh
      omega
    exact ho f (by omega) (hs.pre hf (at_mem hy'))⟩

end

end Go.Proofs.Ytmgieahachphmaa
