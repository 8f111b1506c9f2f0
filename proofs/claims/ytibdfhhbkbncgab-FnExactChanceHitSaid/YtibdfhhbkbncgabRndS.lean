/-
  Random texts: the reference's helpers.
-/
import Derived.Test.YtibdfhhbkbncgabSch
import Derived.Test.YtibdfhhbkbncgabNds
import Derived.Test.YtibdfhhbkbncgabOwn
namespace Go.Proofs.Ytibdfhhbkbncgab
open Go.RowKit
set_option linter.unusedVariables false
set_option linter.unusedSimpArgs false

set_option maxRecDepth 1000000 in
set_option maxHeartbeats 1000000 in
theorem l9Power_any (k m : Nat) (hk : k ≤ 26) (hm : m ≤ 12) (w : World) : Calls Try.prog 43 #[.int .i64 (k : Int), .int .i64 (m : Int)] w fun e w' => e = .returned (.int .i64 ((k ^ m : Nat) : Int)) ∧ w' = w := by
  obtain ⟨pw, HPw⟩ : ∃ pw : Nat → Nat, ∀ j, k ^ j = pw j := ⟨fun j => k ^ j, fun _ => rfl⟩
  have HP0 : Hid (pw 0 = 1) := Lib.hid (by rw [← HPw 0]; rfl)
  have HPs : Hid (∀ j, ((pw j : Int) * (k : Int) = (pw (j + 1) : Int))) := Lib.hid (fun j => by rw [← Int.natCast_mul, ← HPw, ← HPw, Nat.pow_succ])
  have HPb : Hid (∀ j, j ≤ 12 → pw j ≤ 95428956661682176) := Lib.hid (fun j hj => by rw [← HPw]; exact pow_bd hk hj)
  rw [HPw]
  clear HPw
  go_enter Try.func43, Try.ntmps43
  go_wp2
  go_loop [5, 6] (fun v i => ∃ j : Nat, j ≤ m ∧ i = .int .i64 j ∧ v = .int .i64 (pw j : Int)) (fun _ i => m - (intOf i).toNat)
  case atStart => exact ⟨0, Nat.zero_le _, rfl, by rw [HP0.out]; rfl⟩
  case round =>
    obtain ⟨j, hj, rfl, rfl⟩ := hrel
    by_cases hl : j < m
    · have hmul := HPs.out j
      have hb := HPb.out (j + 1) (by omega)
      obtain ⟨z, hz⟩ : ∃ z, pw (j + 1) = z := ⟨_, rfl⟩
      rw [hz] at hmul hb
      have HZ := Lib.hid hz
      have hwr : IntKind.i64.wrap ((pw j : Int) * (k : Int)) = (z : Int) := by rw [hmul, IntKind.wrap_i64]; omega
      clear hz
      go_wp2
      go_round
      case rel => exact ⟨j + 1, by omega, by go_num, by rw [HZ.out]⟩
      case measure => simp [intOf]; omega
    · obtain rfl : j = m := by omega
      go_wp2
      go_ret
      exact ⟨rfl, rfl⟩

set_option maxRecDepth 1000000 in
set_option maxHeartbeats 1000000 in
theorem l9First_any (k : Nat) (s : ByteArray) (hk : k ≤ 26) (hs : s.size ≤ 12) (hlow : Low (tx s)) (w : World) : Calls Try.prog 41 #[.string s, .int .i64 (k : Int)] w fun e w' => e = .returned (.bool (fst9 k (tx s))) ∧ w' = w := by
  have HLow := Lib.hid hlow
  clear hlow
  go_enter Try.func41, Try.ntmps41
  go_wp2
  go_loop [5] (fun i => ∃ j : Nat, j ≤ s.size ∧ i = .int .i64 j ∧ Hid (fst9 k ((tx s).take j) = true)) (fun i => s.size - (intOf i).toNat)
  case atStart => exact ⟨0, Nat.zero_le _, rfl, Lib.hid rfl⟩
  case round =>
    obtain ⟨j, hj, rfl, HF⟩ := hrel
    by_cases hlt : j < s.size
    · have hcx : (tx s)[j]? = some s[j] := by
        rw [List.getElem?_eq_getElem (by rw [tx_len]; exact hlt)]
        rfl
      have hlow := HLow.out s[j] (List.mem_of_getElem? hcx)
      have HTk : Hid ((tx s).take (j + 1) = (tx s).take j ++ [s[j]]) := Lib.hid (by rw [List.take_succ_eq_append_getElem (by rw [tx_len]; exact hlt)]; rfl)
      have HNo : Hid (k + 97 ≤ s[j].toNat → fst9 k (tx s) = false) := Lib.hid (fst9_no hcx)
      have HYs : Hid (s[j].toNat < k + 97 → fst9 k ((tx s).take (j + 1)) = true) := Lib.hid (fun h => by rw [HTk.out, fst9_app, HF.out, fst9_one, decide_eq_true h]; rfl)
      have hj0 : (0 : Int) ≤ (j : Int) := by omega
      have hj1 : (j : Int) < (s.size : Int) := by omega
      obtain ⟨cn, hcn⟩ : ∃ cn : Nat, s[j].toNat = cn := ⟨_, rfl⟩
      have hcz : (s[j].toNat : Int) = (cn : Int) := by rw [hcn]
      rw [hcn] at hlow HNo HYs
      have hw8 : IntKind.u8.wrap ((cn : Int) - 97) = (cn : Int) - 97 := by rw [IntKind.wrap_u8]; omega
      have hc0 : (97 : Int) ≤ (cn : Int) := by omega
      have hc1 : (cn : Int) ≤ 122 := by omega
      clear hcx
      by_cases hck : k + 97 ≤ cn
      · have hd : decide ((k : Int) ≤ (cn : Int) - 97) = true := decide_eq_true (by omega)
        have hd2 : (k : Int) ≤ (cn : Int) - 97 := by omega
        have hR := Lib.hid (HNo.out hck)
        go_wp2
        go_ret
        exact ⟨ret_bool hR.out.symm, rfl⟩
      · have hd : decide ((k : Int) ≤ (cn : Int) - 97) = false := decide_eq_false (by omega)
        have hd2 : ¬ (k : Int) ≤ (cn : Int) - 97 := by omega
        have HFn := Lib.hid (HYs.out (by omega))
        go_wp2
        go_round
        case rel => exact ⟨j + 1, by omega, by go_num, HFn⟩
        case measure => simp [intOf]; omega
    · have hR : Hid (fst9 k (tx s) = true) := Lib.hid (by have := HF.out; rwa [List.take_of_length_le (by rw [tx_len]; omega)] at this)
      go_wp2
      go_ret
      exact ⟨ret_bool hR.out.symm, rfl⟩

set_option maxRecDepth 1000000 in
set_option maxHeartbeats 1000000 in
theorem l9Random_any (k0 n0 : Int) (w : World) : Calls Try.prog 40 #[.int .i64 k0, .int .i64 n0] w fun e w' => e = .returned (.bool (decide (1 ≤ k0 ∧ k0 ≤ 26 ∧ 0 ≤ n0 ∧ n0 ≤ 12))) ∧ w' = w := by
  have c1 := Lib.hid (fun w => l1In_any k0 1 26 w)
  have c2 := Lib.hid (fun w => l1In_any n0 0 12 w)
  by_cases h : 1 ≤ k0 ∧ k0 ≤ 26
  · rw [decide_eq_true h] at c1
    go_enter Try.func40, Try.ntmps40
    go_wp2_with fail
    refine (c1.out _).mono ?_
    rintro e w2 ⟨rfl, rfl⟩
    go_wp2_with fail
    refine (c2.out _).mono ?_
    rintro e w3 ⟨rfl, rfl⟩
    go_wp2_with fail
    go_ret
    exact ⟨ret_bool (by rw [Bool.eq_iff_iff]; simp only [Bool.and_eq_true, decide_eq_true_eq]; omega), rfl⟩
  · rw [decide_eq_false h] at c1
    go_enter Try.func40, Try.ntmps40
    go_wp2_with fail
    refine (c1.out _).mono ?_
    rintro e w2 ⟨rfl, rfl⟩
    go_wp2_with fail
    go_ret
    exact ⟨ret_bool (decide_eq_false (fun hh => h ⟨hh.1, hh.2.1⟩)).symm, rfl⟩

end Go.Proofs.Ytibdfhhbkbncgab
