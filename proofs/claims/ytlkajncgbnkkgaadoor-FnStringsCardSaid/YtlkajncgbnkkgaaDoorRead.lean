/-
  Reading a numeral: what a numeral's text is made of, that the library and the model read it back, and that no text is the numeral of two numbers.
-/
import Derived.Test.YtlkajncgbnkkgaaDoorNum
import Derived.Lib.AtoiAll
namespace Go.Proofs.YtlkajncgbnkkgaaDoor
set_option linter.unusedVariables false

def Dig (c : UInt8) : Prop := 48 ≤ c.toNat ∧ c.toNat ≤ 57
def dv (l : List UInt8) : Nat := l.foldl (fun n c => 10 * n + (c.toNat - 48)) 0
theorem dv_snoc (l : List UInt8) (c : UInt8) : dv (l ++ [c]) = 10 * dv l + (c.toNat - 48) := by simp [dv, List.foldl_append]

theorem dig_of {u : Nat} (h : u < 10) : Dig (UInt8.ofNat (48 + u)) ∧ (UInt8.ofNat (48 + u)).toNat - 48 = u := by
  have e : (UInt8.ofNat (48 + u)).toNat = 48 + u := by rw [UInt8.toNat_ofNat']; omega
  unfold Dig
  rw [e]
  omega

theorem dec_dig : ∀ u, ∀ c ∈ Lib.decDigits u, Dig c := by
  intro u
  induction u using Nat.strongRecOn with
  | _ u ih =>
    intro c hc
    by_cases h : u < 10
    · rw [Lib.decDigits_one h] at hc
      simp only [List.mem_singleton] at hc
      subst hc
      exact (dig_of h).1
    · rw [Lib.decDigits, dif_neg h] at hc
      rcases List.mem_append.1 hc with h1 | h1
      · exact ih (u / 10) (by omega) c h1
      · simp only [List.mem_singleton] at h1
        subst h1
        exact (dig_of (by omega)).1

theorem dec_dv : ∀ u, dv (Lib.decDigits u) = u := by
  intro u
  induction u using Nat.strongRecOn with
  | _ u ih =>
    by_cases h : u < 10
    · rw [Lib.decDigits_one h]
      have := (dig_of h).2
      simp [dv]
      exact this
    · rw [Lib.decDigits, dif_neg h, dv_snoc, ih (u / 10) (by omega), (dig_of (show u % 10 < 10 by omega)).2]
      omega

theorem dec_len : ∀ (k u : Nat), u < 10 ^ (k + 1) → 1 ≤ (Lib.decDigits u).length ∧ (Lib.decDigits u).length ≤ k + 1
  | 0, u, h => by
    rw [Lib.decDigits_one (by simpa using h)]
    simp
  | k + 1, u, h => by
    by_cases h1 : u < 10
    · rw [Lib.decDigits_one h1]
      simp
    · rw [Lib.decDigits, dif_neg h1]
      have := dec_len k (u / 10) (by
        rw [Nat.pow_succ] at h
        omega)
      simp
      omega

theorem dec_len6 {u : Nat} (h : u ≤ 999999) : 1 ≤ (Lib.decDigits u).length ∧ (Lib.decDigits u).length ≤ 6 := dec_len 5 u (by omega)

theorem dv_lt : ∀ (l : List UInt8), (∀ c ∈ l, Dig c) → dv l < 10 ^ l.length := by
  intro l
  rcases List.eq_nil_or_concat l with rfl | ⟨r, c, rfl⟩
  · intro _; simp [dv]
  · intro h
    rw [List.concat_eq_append] at h ⊢
    have ih := dv_lt r (fun c hc => h c (List.mem_append_left _ hc))
    have hc : Dig c := h c (by simp)
    rw [dv_snoc, List.length_append, List.length_singleton, Nat.pow_succ]
    unfold Dig at hc
    omega
  termination_by l => l.length
  decreasing_by subst_vars; simp

theorem dv_le6 {l : List UInt8} (h : ∀ c ∈ l, Dig c) (hl : l.length ≤ 6) : dv l ≤ 999999 := by
  have h1 := dv_lt l h
  have h2 : 10 ^ l.length ≤ 10 ^ 6 := Nat.pow_le_pow_right (by omega) hl
  omega

theorem parse_fold : ∀ (l : List UInt8) (acc : Nat), (∀ c ∈ l, Dig c) → l.foldl (fun n c => 10 * n + (c.toNat - 48)) acc < 1000000000 → acc ≤ l.foldl (fun n c => 10 * n + (c.toNat - 48)) acc ∧ Lib.parseUint10 acc l = .ok (l.foldl (fun n c => 10 * n + (c.toNat - 48)) acc)
  | [], acc, _, _ => ⟨Nat.le_refl _, rfl⟩
  | c :: r, acc, h, hb => by
    have hc : Dig c := h c (by simp)
    obtain ⟨h1, h2⟩ := parse_fold r (10 * acc + (c.toNat - 48)) (fun c hc => h c (by simp [hc])) hb
    unfold Dig at hc
    simp only [List.foldl_cons] at hb ⊢
    refine ⟨by omega, ?_⟩
    unfold Lib.parseUint10
    rw [if_pos hc, if_neg (by omega), if_neg (by omega), Nat.mul_comm acc 10]
    exact h2

theorem parse_dec {u : Nat} (h : u ≤ 999999) : Lib.parseMag (Lib.decDigits u) = .ok u := by
  have h1 := dec_dv u
  have h2 := (parse_fold (Lib.decDigits u) 0 (dec_dig u) (by unfold dv at h1; omega)).2
  unfold Lib.parseMag
  rw [if_neg (by have := (dec_len6 h).1; intro e; rw [e] at this; simp at this), h2]
  unfold dv at h1
  rw [h1]

theorem atoi_itoa {n : Int} (h1 : -999999 ≤ n) (h2 : n ≤ 999999) : Lib.atoiAll (Lib.itoa n) = .ok n := by
  by_cases h : n < 0
  · have e : Lib.itoa n = 45 :: Lib.decDigits n.natAbs := by unfold Lib.itoa; rw [if_pos h]
    rw [e]
    unfold Lib.atoiAll
    have hm : Lib.parseMag (Lib.decDigits n.natAbs) = .ok n.natAbs := parse_dec (by omega)
    simp only [show (45 : UInt8).toNat = 45 from rfl, or_true, if_true, hm]
    rw [if_neg (by omega), if_neg (by omega)]
    congr 1
    omega
  · have e : Lib.itoa n = Lib.decDigits n.toNat := by unfold Lib.itoa; rw [if_neg h]
    rw [e]
    have hm : Lib.parseMag (Lib.decDigits n.toNat) = .ok n.toNat := parse_dec (by omega)
    have hl := (dec_len6 (show n.toNat ≤ 999999 by omega)).1
    have hd := dec_dig n.toNat
    cases hc : Lib.decDigits n.toNat with
    | nil => rw [hc] at hl; simp at hl
    | cons c r =>
      have hcd : Dig c := hd c (by rw [hc]; simp)
      unfold Dig at hcd
      unfold Lib.atoiAll
      rw [hc] at hm
      have e1 : (c.toNat = 45) = False := by simp; omega
      have e2 : (c.toNat = 43) = False := by simp; omega
      simp only [e1, e2, or_self, if_false, hm, not_false_eq_true, true_and, false_and]
      rw [if_neg (by omega)]
      congr 1
      omega

theorem numI_inj {a b : Int} (ha1 : -999999 ≤ a) (ha2 : a ≤ 999999) (hb1 : -999999 ≤ b) (hb2 : b ≤ 999999) (h : numI a = numI b) : a = b := by
  have e : Lib.itoa a = Lib.itoa b := by
    have := congrArg (fun s : ByteArray => s.data.toList) h
    exact this
  have h1 := atoi_itoa ha1 ha2
  rw [e, atoi_itoa hb1 hb2] at h1
  injection h1 with h1
  exact h1.symm

/-- the text is the numeral of a number within the bounds -/
def IsNum (s : ByteArray) (n : Int) : Prop := -999999 ≤ n ∧ n ≤ 999999 ∧ numI n = s

open Classical in
noncomputable def parN (s : ByteArray) : Int := if h : ∃ n, IsNum s n then Classical.choose h else 0
open Classical in
noncomputable def parB (s : ByteArray) : Bool := decide (∃ n, IsNum s n)

theorem parN_yes {s : ByteArray} {n : Int} (h : IsNum s n) : parN s = n := by
  have hex : ∃ n, IsNum s n := ⟨n, h⟩
  unfold parN
  rw [dif_pos hex]
  have hs := Classical.choose_spec hex
  exact numI_inj hs.1 hs.2.1 h.1 h.2.1 (hs.2.2.trans h.2.2.symm)
open Classical in
theorem parB_yes {s : ByteArray} {n : Int} (h : IsNum s n) : parB s = true := by unfold parB; exact decide_eq_true ⟨n, h⟩
theorem parN_no {s : ByteArray} (h : ¬ ∃ n, IsNum s n) : parN s = 0 := dif_neg h
open Classical in
theorem parB_no {s : ByteArray} (h : ¬ ∃ n, IsNum s n) : parB s = false := by unfold parB; exact decide_eq_false h

/-- what the model makes of a text's digits -/
theorem read_neg {s t : ByteArray} {n : Int} (h : IsNum s n) (hs : s.data.toList = 45 :: t.data.toList) : 1 ≤ t.size ∧ t.size ≤ 6 ∧ (∀ c ∈ t.data.toList, Dig c) ∧ -(dv t.data.toList : Int) = n := by
  obtain ⟨h1, h2, h3⟩ := h
  have e : Lib.itoa n = 45 :: t.data.toList := by rw [← hs, ← h3]; rfl
  have hn : n < 0 := by
    refine Decidable.byContradiction fun hc => ?_
    have e2 : Lib.itoa n = Lib.decDigits n.toNat := by unfold Lib.itoa; rw [if_neg hc]
    have := dec_dig n.toNat 45 (by rw [← e2, e]; simp)
    unfold Dig at this
    have e3 : (45 : UInt8).toNat = 45 := rfl
    omega
  have e2 : Lib.itoa n = 45 :: Lib.decDigits n.natAbs := by unfold Lib.itoa; rw [if_pos hn]
  have e3 : t.data.toList = Lib.decDigits n.natAbs := by rw [e2] at e; injection e with _ e; exact e.symm
  have hl := dec_len6 (show n.natAbs ≤ 999999 by omega)
  rw [Lib.size_eq, e3, dec_dv]
  exact ⟨hl.1, hl.2, dec_dig _, by omega⟩

theorem read_pos {s : ByteArray} {n : Int} (h : IsNum s n) (hs : ∀ r, s.data.toList = 45 :: r → r = []) : 1 ≤ s.size ∧ s.size ≤ 6 ∧ (∀ c ∈ s.data.toList, Dig c) ∧ (dv s.data.toList : Int) = n := by
  obtain ⟨h1, h2, h3⟩ := h
  have e : Lib.itoa n = s.data.toList := by rw [← h3]; rfl
  have hn : ¬ n < 0 := by
    intro hc
    have e2 : Lib.itoa n = 45 :: Lib.decDigits n.natAbs := by unfold Lib.itoa; rw [if_pos hc]
    have hr := hs _ (by rw [← e, e2])
    have hl := (dec_len6 (show n.natAbs ≤ 999999 by omega)).1
    rw [hr] at hl
    simp at hl
  have e2 : Lib.itoa n = Lib.decDigits n.toNat := by unfold Lib.itoa; rw [if_neg hn]
  have hl := dec_len6 (show n.toNat ≤ 999999 by omega)
  rw [Lib.size_eq, ← e, e2, dec_dv]
  exact ⟨hl.1, hl.2, dec_dig _, by omega⟩

end Go.Proofs.YtlkajncgbnkkgaaDoor
