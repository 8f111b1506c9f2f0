import Derived.Test.YtibdfhhbkbncgabTri
import Derived.Test.YtibdfhhbkbncgabFr
import Derived.Test.YtibdfhhbkbncgabSl
import Derived.Test.YtibdfhhbkbncgabNds
import Derived.Test.YtibdfhhbkbncgabOwn
import Derived.Test.YtibdfhhbkbncgabTxt

/-
  The chance that a random text begins with a text: plain mathematics.
-/
namespace Go.Proofs.Ytibdfhhbkbncgab
open Go.RowKit
set_option linter.unusedVariables false
set_option linter.unusedSimpArgs false

/-- the text is of the first k letters -/
def fst9 (k : Nat) (x : Txt) : Bool := x.all fun c => decide (c.toNat < k + 97)
/-- the chance that a random text of the first k letters begins with a text -/
def sch (k : Nat) (x : Txt) : Nat × Nat := if fst9 k x = true then (1, k ^ x.length) else (0, 1)

theorem fst9_app (k : Nat) (x y : Txt) : fst9 k (x ++ y) = (fst9 k x && fst9 k y) := by simp [fst9]
theorem fst9_one (k : Nat) (c : UInt8) : fst9 k [c] = decide (c.toNat < k + 97) := by simp [fst9]
theorem fst9_no {k : Nat} {x : Txt} {j : Nat} {c : UInt8} (h : x[j]? = some c) (hc : k + 97 ≤ c.toNat) : fst9 k x = false := by
  unfold fst9
  rw [List.all_eq_false]
  exact ⟨c, List.mem_of_getElem? h, by simp; omega⟩

theorem pow_bd {k j : Nat} (hk : k ≤ 26) (hj : j ≤ 12) : k ^ j ≤ 95428956661682176 :=
  Nat.le_trans (Nat.pow_le_pow_left hk j) (Nat.le_trans (Nat.pow_le_pow_right (by omega) hj) (by decide))
theorem pow_mul_bd {k j : Nat} (hk : k ≤ 26) (hj : j < 12) : k ^ j * k ≤ 95428956661682176 := by
  rw [← Nat.pow_succ]
  exact pow_bd hk hj

end Go.Proofs.Ytibdfhhbkbncgab

/-
  Random texts: the reference's helpers.
-/
namespace Go.Proofs.Ytibdfhhbkbncgab
open Go.RowKit
set_option linter.unusedVariables false
set_option linter.unusedSimpArgs false

set_option maxRecDepth 1000000 in
set_option maxHeartbeats 1000000 in
theorem l9Power_any (k m : Nat) (hk : k ≤ 26) (hm : m ≤ 12) (w : World) : Calls Try.prog 43 #[.int .i64 (k : Int), .int .i64 (m : Int)] w fun e w' => e = .returned (.int .i64 ((k ^ m : Nat) : Int)) ∧ w' = w := by
  obtain ⟨pw, HPw⟩ : ∃ pw : Nat → Nat, ∀ j, k ^ j = pw j := ⟨fun j => k ^ j, fun _ => rfl⟩
  have HP0 : Hid (pw 0 = 1) := Lib.hid (by rw [← HPw 0]; rfl)
  have HPs : Hid (∀ j, ((pw j : Int) * (k : Int) = (pw (j + 1) : Int))) := Lib.hid (fun j => by rw [← Int.natCast_mul, ← HPw, ← HPw, Nat.pow_succ])
  have HPb : Hid (∀ j, j ≤ 12 → pw j ≤ 95428956661682176) := Lib.hid (fun j hj => by rw [← HPw]; exact pow_bd hk hj)
  rw [HPw]
  clear HPw
  go_enter Try.func43, Try.ntmps43
  go_wp2
  go_loop [5, 6] (fun v i => ∃ j : Nat, j ≤ m ∧ i = .int .i64 j ∧ v = .int .i64 (pw j : Int)) (fun _ i => m - (intOf i).toNat)
  case atStart => exact ⟨0, Nat.zero_le _, rfl, by rw [HP0.out]; rfl⟩
  case round =>
    obtain ⟨j, hj, rfl, rfl⟩ := hrel
    by_cases hl : j < m
    · have hmul := HPs.out j
      have hb := HPb.out (j + 1) (by omega)
      obtain ⟨z, hz⟩ : ∃ z, pw (j + 1) = z := ⟨_, rfl⟩
      rw [hz] at hmul hb
      have HZ := Lib.hid hz
      have hwr : IntKind.i64.wrap ((pw j : Int) * (k : Int)) = (z : Int) := by rw [hmul, IntKind.wrap_i64]; omega
      clear hz
      go_wp2
      go_round
      case rel => exact ⟨j + 1, by omega, by go_num, by rw [HZ.out]⟩
      case measure => simp [intOf]; omega
    · obtain rfl : j = m := by omega
      go_wp2
      go_ret
      exact ⟨rfl, rfl⟩

set_option maxRecDepth 1000000 in
set_option maxHeartbeats 1000000 in
theorem l9First_any (k : Nat) (s : ByteArray) (hk : k ≤ 26) (hs : s.size ≤ 12) (hlow : Low (tx s)) (w : World) : Calls Try.prog 41 #[.string s, .int .i64 (k : Int)] w fun e w' => e = .returned (.bool (fst9 k (tx s))) ∧ w' = w := by
  have HLow := Lib.hid hlow
  clear hlow
  go_enter Try.func41, Try.ntmps41
  go_wp2
  go_loop [5] (fun i => ∃ j : Nat, j ≤ s.size ∧ i = .int .i64 j ∧ Hid (fst9 k ((tx s).take j) = true)) (fun i => s.size - (intOf i).toNat)
  case atStart => exact ⟨0, Nat.zero_le _, rfl, Lib.hid rfl⟩
  case round =>
    obtain ⟨j, hj, rfl, HF⟩ := hrel
    by_cases hlt : j < s.size
    · have hcx : (tx s)[j]? = some s[j] := by
        rw [List.getElem?_eq_getElem (by rw [tx_len]; exact hlt)]
        rfl
      have hlow := HLow.out s[j] (List.mem_of_getElem? hcx)
      have HTk : Hid ((tx s).take (j + 1) = (tx s).take j ++ [s[j]]) := Lib.hid (by rw [List.take_succ_eq_append_getElem (by rw [tx_len]; exact hlt)]; rfl)
      have HNo : Hid (k + 97 ≤ s[j].toNat → fst9 k (tx s) = false) := Lib.hid (fst9_no hcx)
      have HYs : Hid (s[j].toNat < k + 97 → fst9 k ((tx s).take (j + 1)) = true) := Lib.hid (fun h => by rw [HTk.out, fst9_app, HF.out, fst9_one, decide_eq_true h]; rfl)
      have hj0 : (0 : Int) ≤ (j : Int) := by omega
      have hj1 : (j : Int) < (s.size : Int) := by omega
      obtain ⟨cn, hcn⟩ : ∃ cn : Nat, s[j].toNat = cn := ⟨_, rfl⟩
      have hcz : (s[j].toNat : Int) = (cn : Int) := by rw [hcn]
      rw [hcn] at hlow HNo HYs
      have hw8 : IntKind.u8.wrap ((cn : Int) - 97) = (cn : Int) - 97 := by rw [IntKind.wrap_u8]; omega
      have hc0 : (97 : Int) ≤ (cn : Int) := by omega
      have hc1 : (cn : Int) ≤ 122 := by omega
      clear hcx
      by_cases hck : k + 97 ≤ cn
      · have hd : decide ((k : Int) ≤ (cn : Int) - 97) = true := decide_eq_true (by omega)
        have hd2 : (k : Int) ≤ (cn : Int) - 97 := by omega
        have hR := Lib.hid (HNo.out hck)
        go_wp2
        go_ret
        exact ⟨ret_bool hR.out.symm, rfl⟩
      · have hd : decide ((k : Int) ≤ (cn : Int) - 97) = false := decide_eq_false (by omega)
        have hd2 : ¬ (k : Int) ≤ (cn : Int) - 97 := by omega
        have HFn := Lib.hid (HYs.out (by omega))
        go_wp2
        go_round
        case rel => exact ⟨j + 1, by omega, by go_num, HFn⟩
        case measure => simp [intOf]; omega
    · have hR : Hid (fst9 k (tx s) = true) := Lib.hid (by have := HF.out; rwa [List.take_of_length_le (by rw [tx_len]; omega)] at this)
      go_wp2
      go_ret
      exact ⟨ret_bool hR.out.symm, rfl⟩

set_option maxRecDepth 1000000 in
set_option maxHeartbeats 1000000 in
theorem l9Random_any (k0 n0 : Int) (w : World) : Calls Try.prog 40 #[.int .i64 k0, .int .i64 n0] w fun e w' => e = .returned (.bool (decide (1 ≤ k0 ∧ k0 ≤ 26 ∧ 0 ≤ n0 ∧ n0 ≤ 12))) ∧ w' = w := by
  have c1 := Lib.hid (fun w => l1In_any k0 1 26 w)
  have c2 := Lib.hid (fun w => l1In_any n0 0 12 w)
  by_cases h : 1 ≤ k0 ∧ k0 ≤ 26
  · rw [decide_eq_true h] at c1
    go_enter Try.func40, Try.ntmps40
    go_wp2_with fail
    refine (c1.out _).mono ?_
    rintro e w2 ⟨rfl, rfl⟩
    go_wp2_with fail
    refine (c2.out _).mono ?_
    rintro e w3 ⟨rfl, rfl⟩
    go_wp2_with fail
    go_ret
    exact ⟨ret_bool (by rw [Bool.eq_iff_iff]; simp only [Bool.and_eq_true, decide_eq_true_eq]; omega), rfl⟩
  · rw [decide_eq_false h] at c1
    go_enter Try.func40, Try.ntmps40
    go_wp2_with fail
    refine (c1.out _).mono ?_
    rintro e w2 ⟨rfl, rfl⟩
    go_wp2_with fail
    go_ret
    exact ⟨ret_bool (decide_eq_false (fun hh => h ⟨hh.1, hh.2.1⟩)).symm, rfl⟩

end Go.Proofs.Ytibdfhhbkbncgab

/-
  The sum of what is told of texts.
-/
namespace Go.Proofs.Ytibdfhhbkbncgab
set_option linter.unusedVariables false

/-- the sum of what is told -/
def tsum (tell : Txt → Nat) : List Txt → Nat
  | [] => 0
  | x :: r => tsum tell r + tell x
theorem tsum_app (tell : Txt → Nat) : ∀ a b : List Txt, tsum tell (a ++ b) = tsum tell a + tsum tell b
  | [], b => by simp [tsum]
  | x :: a, b => by simp only [List.cons_append, tsum]; rw [tsum_app tell a b]; omega
theorem tsum_succ (tell : Txt → Nat) {xs : List Txt} {k : Nat} {x : Txt} (h : xs[k]? = some x) : tsum tell (xs.take (k + 1)) = tsum tell (xs.take k) + tell x := by
  obtain ⟨hk, e⟩ := List.getElem?_eq_some_iff.1 h
  rw [List.take_succ_eq_append_getElem hk, tsum_app, e]
  simp [tsum]

theorem tsum_le (tell : Txt → Nat) (b : Nat) : ∀ {xs : List Txt}, (∀ x ∈ xs, tell x ≤ b) → tsum tell xs ≤ b * xs.length
  | [], _ => Nat.zero_le _
  | x :: r, h => by
    have h1 := tsum_le tell b (xs := r) (fun y hy => h y (List.mem_cons_of_mem _ hy))
    have h2 := h x List.mem_cons_self
    simp only [tsum, List.length_cons, Nat.mul_add, Nat.mul_one]
    omega
theorem tsum_congr {f g : Txt → Nat} : ∀ {xs : List Txt}, (∀ x ∈ xs, f x = g x) → tsum f xs = tsum g xs
  | [], _ => rfl
  | x :: r, h => by
    simp only [tsum]
    rw [tsum_congr (xs := r) (fun y hy => h y (List.mem_cons_of_mem _ hy)), h x List.mem_cons_self]
theorem tsum_add (f g : Txt → Nat) : ∀ xs : List Txt, tsum (fun x => f x + g x) xs = tsum f xs + tsum g xs
  | [] => rfl
  | x :: r => by simp only [tsum]; rw [tsum_add f g r]; omega

end Go.Proofs.Ytibdfhhbkbncgab

/-
  Chances over one denominator: plain mathematics.
-/
namespace Go.Proofs.Ytibdfhhbkbncgab
open Go.RowKit
set_option linter.unusedVariables false
set_option linter.unusedSimpArgs false

/-- what a word adds to the texts that are hit -/
def htw (k n : Nat) (x : Txt) : Nat := if x.length = n ∧ fst9 k x = true then 1 else 0

theorem frac_part {m K : Nat} (hK : 0 < K) {D : Nat} (hD : D = K) : (fra m K).1 * (D / (fra m K).2) = m := by
  subst hD
  have h1 := fra_cross (a := m) hK
  obtain ⟨z, hz⟩ := fra_den_dvd m D
  have hp := fra_den_pos (a := m) hK
  have e : D / (fra m D).2 = z := Nat.div_eq_of_eq_mul_right hp hz
  rw [e]
  apply Nat.eq_of_mul_eq_mul_left hp
  calc (fra m D).2 * ((fra m D).1 * z) = (fra m D).1 * ((fra m D).2 * z) := by rw [Nat.mul_left_comm]
    _ = (fra m D).1 * D := by rw [← hz]
    _ = m * (fra m D).2 := h1
    _ = (fra m D).2 * m := Nat.mul_comm _ _

/-- a chance more, over the same denominator -/
theorem frac_more {m a k n l : Nat} (hk : 1 ≤ k) (hl : l ≤ n) : fadd (fra m (k ^ n)) (fra a (k ^ l)) = fra (m + a * k ^ (n - l)) (k ^ n) := by
  have p1 : 0 < k ^ n := Nat.pow_pos (by omega)
  have p2 : 0 < k ^ l := Nat.pow_pos (by omega)
  rw [fadd_fra p1 p2]
  have e : k ^ n = k ^ (n - l) * k ^ l := by rw [← Nat.pow_add]; congr 1; omega
  have e2 : m * k ^ l + a * k ^ n = (m + a * k ^ (n - l)) * k ^ l := by
    rw [Nat.add_mul, Nat.mul_assoc a, ← e]
  rw [e2, fra_up p1 p2]

theorem sch_yes {k : Nat} {x : Txt} (h : fst9 k x = true) : sch k x = fra 1 (k ^ x.length) := by unfold sch; rw [if_pos h, fra_one]
theorem sch_no {k : Nat} {x : Txt} (hk : 1 ≤ k) (h : fst9 k x = false) : sch k x = fra 0 (k ^ x.length) := by
  unfold sch
  rw [if_neg (by rw [h]; simp), fra_zero (Nat.pow_pos (by omega))]
theorem sch_den {k : Nat} {x : Txt} (hk : 1 ≤ k) : 0 < (sch k x).2 ∧ (sch k x).2 ∣ k ^ x.length ∧ (sch k x).1 ≤ 1 := by
  unfold sch
  split
  · exact ⟨Nat.pow_pos (by omega), Nat.dvd_refl _, Nat.le_refl _⟩
  · exact ⟨by simp, Nat.one_dvd _, by simp⟩

/-- what a word of at most n letters adds -/
def addw (k n : Nat) (x : Txt) : Nat := if fst9 k x = true then k ^ (n - x.length) else 0
theorem sch_add {m k n : Nat} {x : Txt} (hk : 1 ≤ k) (hx : x.length ≤ n) : fadd (fra m (k ^ n)) (sch k x) = fra (m + addw k n x) (k ^ n) := by
  unfold addw
  cases h : fst9 k x with
  | true => rw [sch_yes h, frac_more hk hx]; simp
  | false => rw [sch_no hk h, frac_more hk hx]; simp
theorem sch_part {k n : Nat} {x : Txt} (hk : 1 ≤ k) (hx : x.length ≤ n) : (sch k x).1 * (k ^ n / (sch k x).2) ≤ k ^ n := by
  obtain ⟨h1, h2, h3⟩ := sch_den (x := x) hk
  calc (sch k x).1 * (k ^ n / (sch k x).2) ≤ 1 * (k ^ n / (sch k x).2) := Nat.mul_le_mul_right _ h3
    _ = k ^ n / (sch k x).2 := Nat.one_mul _
    _ ≤ k ^ n := Nat.div_le_self _ _
theorem addw_le {k n : Nat} {x : Txt} (hk : 1 ≤ k) : addw k n x ≤ k ^ n := by
  unfold addw
  split
  · exact Nat.pow_le_pow_right (by omega) (by omega)
  · exact Nat.zero_le _

end Go.Proofs.Ytibdfhhbkbncgab

/-
  What a first word adds to the texts that begin with one: plain mathematics.
-/
namespace Go.Proofs.Ytibdfhhbkbncgab
open Go.RowKit
set_option linter.unusedVariables false
set_option linter.unusedSimpArgs false

/-- what a first word adds -/
def begw (k m : Nat) (x : Txt) : Nat := if x.length ≤ m then addw k m x else 0
theorem begw_le {k m : Nat} {x : Txt} (hk : 1 ≤ k) : begw k m x ≤ k ^ m := by
  unfold begw
  split
  · exact addw_le hk
  · exact Nat.zero_le _

end Go.Proofs.Ytibdfhhbkbncgab
