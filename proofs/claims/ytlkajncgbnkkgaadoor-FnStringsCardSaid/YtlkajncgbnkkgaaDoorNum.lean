/-
  The contract of the model's text of a number: the decimal numeral that the library writes.
-/
import Derived.Test.YtlkajncgbnkkgaaDoorRows
import Derived.WalkKit
import Derived.Lib.Hide
import Derived.Lib.ItoaMem
import Derived.Lib.Strings
import Derived.Deep.QuietTactic
import Derived.BigQuiet
import Derived.WalkSpells
namespace Go.Proofs.YtlkajncgbnkkgaaDoor
open Go.RowKit
set_option linter.unusedVariables false

/-- the numeral of a number that is not negative -/
def numS (u : Nat) : ByteArray := ⟨(Lib.decDigits u).toArray⟩
def tenS : ByteArray := { data := #[48, 49, 50, 51, 52, 53, 54, 55, 56, 57] }

theorem numS_small : ∀ u, u < 10 → tenS.extract u (u + 1) = numS u := by
  intro u hu
  have h : ∀ u : Fin 10, tenS.extract u.val (u.val + 1) = ⟨[UInt8.ofNat (48 + u.val)].toArray⟩ := by decide
  have := h ⟨u, hu⟩
  unfold numS
  rw [Lib.decDigits_one hu]
  exact this

theorem numS_big {u : Nat} (h : ¬ u < 10) : numS u = numS (u / 10) ++ numS (u % 10) := by
  unfold numS
  rw [Lib.decDigits_one (show u % 10 < 10 by omega)]
  conv => lhs; rw [Lib.decDigits, dif_neg h]
  apply ByteArray.ext
  simp

theorem numS_le : ∀ u, (numS u).size ≤ u + 1 := by
  intro u
  induction u using Nat.strongRecOn with
  | _ u ih =>
    by_cases h : u < 10
    · have : (numS u).size = 1 := by unfold numS; rw [Lib.decDigits_one h]; rfl
      omega
    · rw [numS_big h, ByteArray.size_append]
      have h1 := ih (u / 10) (by omega)
      have h2 : (numS (u % 10)).size = 1 := by unfold numS; rw [Lib.decDigits_one (by omega)]; rfl
      omega

theorem ret_s {a b : ByteArray} (h : a = b) : Ending.returned (.string a) = .returned (.string b) := by rw [h]

set_option maxHeartbeats 1000000 in
theorem num_pos (k : Nat) : ∀ (a : Int) (w : World), 0 ≤ a → a ≤ k → a ≤ 1000000000 →
    Calls Tryd.prog 22 #[.int .i64 a] w fun e w' => e = .returned (.string (numS a.toNat)) ∧ ∃ q, w' = w.drewN q := by
  induction k with
  | zero =>
    intro a w h0 h1 h2
    obtain rfl : a = 0 := by omega
    have HS := Lib.hid (numS_small 0 (by omega))
    go_enter Tryd.func22, Tryd.ntmps22
    go_wp2_with fail
    go_ret
    exact ⟨ret_s HS.out, 0, rfl⟩
  | succ k ih =>
    intro a w h0 h1 h2
    have IH := Lib.hid ih
    clear ih
    by_cases h : a < 10
    · have HS := Lib.hid (numS_small a.toNat (by omega))
      go_enter Tryd.func22, Tryd.ntmps22
      go_wp2_with fail
      go_ret
      exact ⟨ret_s (by rw [show (a + 1).toNat = a.toNat + 1 by omega]; exact HS.out), 0, rfl⟩
    · have z1 : (numS (a / 10).toNat).size ≤ 100000001 := by have := numS_le (a / 10).toNat; omega
      have HB : Hid (numS a.toNat = numS (a / 10).toNat ++ tenS.extract (a % 10).toNat (a % 10 + 1).toNat) := Lib.hid (by
        rw [show (a % 10 + 1).toNat = (a % 10).toNat + 1 by omega, numS_small _ (by omega), show (a / 10).toNat = a.toNat / 10 by omega, show (a % 10).toNat = a.toNat % 10 by omega]
        exact numS_big (by omega))
      have d0 : 0 ≤ a / 10 := by omega
      have d1 : 0 ≤ a % 10 := by omega
      have d2 : a % 10 ≤ 9 := by omega
      go_enter Tryd.func22, Tryd.ntmps22
      go_wp2_with fail
      go_quiet ((go_at_call 22; exact Calls.quiet_of (IH.out _ _ (by omega) (by omega) (by omega))))
      go_wp2_with fail
      go_ret
      exact ⟨ret_s HB.out.symm, _, rfl⟩

/-- the numeral of any number -/
def numI (n : Int) : ByteArray := ⟨(Lib.itoa n).toArray⟩

theorem numI_pos {a : Int} (h : 0 ≤ a) : numI a = numS a.toNat := by
  unfold numI numS Lib.itoa
  rw [if_neg (by omega)]

theorem numI_neg {a : Int} (h : a < 0) : numI a = ⟨#[45]⟩ ++ numS a.natAbs := by
  unfold numI numS Lib.itoa
  rw [if_pos h]
  apply ByteArray.ext
  simp

theorem numI_le (a : Int) : (numI a).size ≤ a.natAbs + 2 := by
  by_cases h : a < 0
  · rw [numI_neg h, ByteArray.size_append]
    have := numS_le a.natAbs
    have h1 : (⟨#[45]⟩ : ByteArray).size = 1 := rfl
    omega
  · rw [numI_pos (by omega)]
    have := numS_le a.toNat
    omega

set_option maxHeartbeats 1000000 in
theorem num_neg (k : Nat) : ∀ (a : Int) (w : World), a < 0 → -a ≤ k → -1000000000 ≤ a →
    Calls Tryd.prog 22 #[.int .i64 a] w fun e w' => e = .returned (.string (numI a)) ∧ ∃ q, w' = w.drewN q := by
  induction k with
  | zero => intro a w h0 h1 h2; omega
  | succ k ih =>
    intro a w h0 h1 h2
    have IH := Lib.hid ih
    clear ih
    by_cases h : -10 < a
    · have HE : Hid (numI a = ⟨#[45]⟩ ++ numS (-a).toNat) := Lib.hid (by rw [numI_neg h0, show (-a).toNat = a.natAbs by omega])
      have z1 : (numS (-a).toNat).size ≤ 11 := by have := numS_le (-a).toNat; omega
      go_enter Tryd.func22, Tryd.ntmps22
      go_wp2_with (go_at_call 22; refine (num_pos 10 (-a) _ (by omega) (by omega) (by omega)).mono ?_; rintro e w1 ⟨rfl, q, rfl⟩)
      go_ret
      exact ⟨ret_s HE.out.symm, _, rfl⟩
    · have t1 : a.tdiv 10 = -((-a) / 10) := by
        have e := Int.neg_tdiv (a := -a) (b := 10)
        rwa [Int.neg_neg, Int.tdiv_eq_ediv_of_nonneg (a := -a) (b := 10) (by omega)] at e
      have t2 : a.tmod 10 = -((-a) % 10) := by
        have e := Int.neg_tmod (-a) 10
        rwa [Int.neg_neg, Int.tmod_eq_emod_of_nonneg (a := -a) (b := 10) (by omega)] at e
      obtain ⟨d, hd⟩ : ∃ d, a.tdiv 10 = d := ⟨_, rfl⟩
      obtain ⟨m, hm⟩ : ∃ m, a.tmod 10 = m := ⟨_, rfl⟩
      have HE : Hid (numI a = numI d ++ numS (-m).toNat) := Lib.hid (by
        rw [numI_neg h0, numI_neg (show d < 0 by omega), numS_big (show ¬ a.natAbs < 10 by omega), show d.natAbs = a.natAbs / 10 by omega, show (-m).toNat = a.natAbs % 10 by omega]
        apply ByteArray.ext
        simp)
      have b1 : d < 0 := by omega
      have b2 : -100000000 ≤ d := by omega
      have b3 : m ≤ 0 := by omega
      have b4 : -9 ≤ m := by omega
      have b5 : -d ≤ k := by omega
      have z1 : (numI d).size ≤ 100000002 := by have := numI_le d; omega
      have z2 : (numS (-m).toNat).size ≤ 10 := by have := numS_le (-m).toNat; omega
      clear t1 t2
      go_enter Tryd.func22, Tryd.ntmps22
      go_wp2_with fail
      refine (IH.out d _ b1 b5 (by omega)).mono ?_
      rintro e w1 ⟨rfl, q, rfl⟩
      go_wp2_with fail
      refine (num_pos 10 (-m) _ (by omega) (by omega) (by omega)).mono ?_
      rintro e w2 ⟨rfl, q2, rfl⟩
      go_wp2_with fail
      go_ret
      exact ⟨ret_s HE.out.symm, _, rfl⟩

theorem num_any (a : Int) (w : World) (h1 : -1000000000 ≤ a) (h2 : a ≤ 1000000000) :
    Calls Tryd.prog 22 #[.int .i64 a] w fun e w' => e = .returned (.string (numI a)) ∧ ∃ q, w' = w.drewN q := by
  by_cases h : a < 0
  · exact num_neg (-a).toNat a w h (by omega) h1
  · rw [numI_pos (by omega)]
    exact num_pos a.toNat a w (by omega) (by omega) h2

end Go.Proofs.YtlkajncgbnkkgaaDoor
