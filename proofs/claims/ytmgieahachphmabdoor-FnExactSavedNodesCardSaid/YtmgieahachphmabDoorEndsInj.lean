/-
  The program's text for what is behind a node tells it.
-/
import Derived.Test.YtmgieahachphmabDoorEndsText
import Derived.Lib.ItoaMem
namespace Go.Proofs.YtmgieahachphmabDoor
set_option linter.unusedVariables false

/-- a decimal digit -/
def isDig (c : UInt8) : Prop := 48 ≤ c.toNat ∧ c.toNat ≤ 57

theorem dig_ten {i : Nat} (h : i < 10) : (UInt8.ofNat (48 + i)).toNat = 48 + i := by
  rw [UInt8.toNat_ofNat']
  exact Nat.mod_eq_of_lt (by omega)

theorem dec_step {u : Nat} (h : ¬ u < 10) : Lib.decDigits u = Lib.decDigits (u / 10) ++ [UInt8.ofNat (48 + u % 10)] := by
  conv => lhs; unfold Lib.decDigits
  rw [dif_neg h]

theorem dec_dig : ∀ (m u : Nat), u ≤ m → ∀ c ∈ Lib.decDigits u, isDig c := by
  intro m
  induction m with
  | zero =>
    intro u hu c hc
    have e : u = 0 := by omega
    subst e
    rw [Lib.decDigits_one (by omega)] at hc
    simp at hc
    subst hc
    exact ⟨by decide, by decide⟩
  | succ m ih =>
    intro u hu c hc
    by_cases h : u < 10
    · rw [Lib.decDigits_one h, List.mem_singleton] at hc
      subst hc
      have := dig_ten h
      exact ⟨by omega, by omega⟩
    · rw [dec_step h, List.mem_append, List.mem_singleton] at hc
      rcases hc with hc | rfl
      · exact ih (u / 10) (by omega) c hc
      · have := dig_ten (show u % 10 < 10 by omega)
        exact ⟨by omega, by omega⟩

/-- the number that digits tell -/
def undec : List UInt8 → Nat → Nat
  | [], a => a
  | c :: r, a => undec r (a * 10 + (c.toNat - 48))

theorem undec_app : ∀ (x y : List UInt8) (a : Nat), undec (x ++ y) a = undec y (undec x a)
  | [], y, a => rfl
  | c :: x, y, a => undec_app x y _

theorem undec_dec : ∀ (m u : Nat), u ≤ m → undec (Lib.decDigits u) 0 = u := by
  intro m
  induction m with
  | zero =>
    intro u hu
    have e : u = 0 := by omega
    subst e
    rw [Lib.decDigits_one (by omega)]
    rfl
  | succ m ih =>
    intro u hu
    by_cases h : u < 10
    · rw [Lib.decDigits_one h]
      have := dig_ten h
      simp only [undec]
      omega
    · rw [dec_step h, undec_app, ih (u / 10) (by omega)]
      have := dig_ten (show u % 10 < 10 by omega)
      simp only [undec]
      omega

theorem itoa_tells {u v : Nat} (h : Lib.itoa (u : Int) = Lib.itoa (v : Int)) : u = v := by
  rw [Lib.itoa_nonneg, Lib.itoa_nonneg] at h
  rw [← undec_dec u u (Nat.le_refl _), h, undec_dec v v (Nat.le_refl _)]

theorem itoa_dig {u : Nat} : ∀ c ∈ Lib.itoa (u : Int), isDig c := by
  rw [Lib.itoa_nonneg]
  exact dec_dig u u (Nat.le_refl _)

/-- a text that begins with no digit -/
def NoDig (x : List UInt8) : Prop := ∀ c r, x = c :: r → ¬ isDig c

theorem dig_part : ∀ {x y r s : List UInt8}, (∀ c ∈ x, isDig c) → (∀ c ∈ y, isDig c) → NoDig r → NoDig s → x ++ r = y ++ s → x = y ∧ r = s
  | [], [], r, s, _, _, _, _, h => ⟨rfl, h⟩
  | [], c :: y, r, s, _, hy, hr, _, h => absurd (hy c (by simp)) (hr c (y ++ s) h)
  | c :: x, [], r, s, hx, _, _, hs, h => absurd (hx c (by simp)) (hs c (x ++ r) h.symm)
  | c :: x, d :: y, r, s, hx, hy, hr, hs, h => by
    have h1 : c = d ∧ x ++ r = y ++ s := by simpa using h
    obtain ⟨h2, h3⟩ := dig_part (fun q hq => hx q (by simp [hq])) (fun q hq => hy q (by simp [hq])) hr hs h1.2
    exact ⟨by rw [h1.1, h2], h3⟩

theorem let_byte {z : Int} (h0 : 0 ≤ z) (h1 : z ≤ 25) : ((UInt8.ofNat (97 + z).toNat).toNat : Int) = 97 + z := by
  have e8 : (UInt8.ofNat (97 + z).toNat).toNat = (97 + z).toNat := by
    rw [UInt8.toNat_ofNat']
    exact Nat.mod_eq_of_lt (by omega)
  rw [e8]
  omega

/-- letters are letters -/
def Lets (l : List (Int × Nat)) : Prop := ∀ p ∈ l, 0 ≤ p.1 ∧ p.1 ≤ 25

theorem etl_noDig {l : List (Int × Nat)} (h : Lets l) : NoDig (etl l) := by
  intro c r e hd
  cases l with
  | nil => cases e
  | cons p l =>
    have e2 : etl (p :: l) = UInt8.ofNat (97 + p.1).toNat :: (Lib.itoa (p.2 : Int) ++ etl l) := rfl
    rw [e2] at e
    injection e with e3 e4
    have hp := h p (by simp)
    have := let_byte hp.1 hp.2
    rw [e3] at this
    have := hd.2
    omega

theorem etl_inj : ∀ {l m : List (Int × Nat)}, Lets l → Lets m → etl l = etl m → l = m
  | [], [], _, _, _ => rfl
  | [], p :: m, _, _, h => by cases h
  | p :: l, [], _, _, h => by cases h
  | p :: l, q :: m, hl, hm, h => by
    have e2 : etl (p :: l) = UInt8.ofNat (97 + p.1).toNat :: (Lib.itoa (p.2 : Int) ++ etl l) := rfl
    have e3 : etl (q :: m) = UInt8.ofNat (97 + q.1).toNat :: (Lib.itoa (q.2 : Int) ++ etl m) := rfl
    rw [e2, e3] at h
    injection h with h1 h2
    have hp := hl p (by simp)
    have hq := hm q (by simp)
    have b1 := let_byte hp.1 hp.2
    have b2 := let_byte hq.1 hq.2
    rw [h1] at b1
    have hl' : Lets l := fun x hx => hl x (by simp [hx])
    have hm' : Lets m := fun x hx => hm x (by simp [hx])
    obtain ⟨h3, h4⟩ := dig_part itoa_dig itoa_dig (etl_noDig hl') (etl_noDig hm') h2
    have h5 := itoa_tells h3
    have h6 := etl_inj hl' hm' h4
    rw [h6, Prod.ext (show p.1 = q.1 by omega) h5]

theorem etl_noDot {l : List (Int × Nat)} (h : Lets l) : ∀ r, etl l ≠ 46 :: r := by
  intro r e
  cases l with
  | nil => cases e
  | cons p l =>
    have e2 : etl (p :: l) = UInt8.ofNat (97 + p.1).toNat :: (Lib.itoa (p.2 : Int) ++ etl l) := rfl
    rw [e2] at e
    injection e with e3 e4
    have hp := h p (by simp)
    have b := let_byte hp.1 hp.2
    rw [e3] at b
    have : (46 : UInt8).toNat = 46 := rfl
    omega

theorem ets_inj {s t : Sg} (hs : Lets s.2) (ht : Lets t.2) (h : ets s = ets t) : s = t := by
  obtain ⟨a, l⟩ := s
  obtain ⟨b, m⟩ := t
  unfold ets at h
  cases a <;> cases b <;> simp at h
  · have h9 : l = m := etl_inj hs ht h
    rw [h9]
  · exact absurd h (etl_noDot hs _)
  · exact absurd h.symm (etl_noDot ht _)
  · have h9 : l = m := etl_inj hs ht h
    rw [h9]

end Go.Proofs.YtmgieahachphmabDoor
