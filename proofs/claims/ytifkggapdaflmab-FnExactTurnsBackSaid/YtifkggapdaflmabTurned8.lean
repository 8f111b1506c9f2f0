/-
  What turns back: the program's and the reference's tests.
-/
import Derived.Test.YtifkggapdaflmabParts8
import Derived.Test.YtifkggapdaflmabPrt2
import Derived.Test.YtifkggapdaflmabTurnB
import Derived.Deep.QuietTactic
import Derived.BigQuiet
import Derived.IntWalk
namespace Go.Proofs.Ytifkggapdaflmab
open Go.RowKit
set_option linter.unusedVariables false

theorem pal_no {s : ByteArray} {k : Nat} (hk : k < s.size) (h : s[k] ≠ s[s.size - 1 - k]'(by omega)) : palB (tx s) = false := by
  unfold palB
  rw [decide_eq_false_iff_not]
  intro e
  apply h
  have h1 : (tx s)[k]'(by rw [tx_len]; exact hk) = s[k] := rfl
  have h2 : (tx s)[s.size - 1 - k]'(by rw [tx_len]; omega) = s[s.size - 1 - k]'(by omega) := rfl
  rw [← h1, ← h2]
  have h3 : (tx s)[k]? = (tx s).reverse[k]? := by rw [← e]
  rw [List.getElem?_reverse (by rw [tx_len]; exact hk), tx_len, List.getElem?_eq_getElem (by rw [tx_len]; exact hk), List.getElem?_eq_getElem (by rw [tx_len]; omega)] at h3
  exact Option.some.inj h3

theorem pal_yes {s : ByteArray} (h : ∀ j (hj : j < s.size), s[j] = s[s.size - 1 - j]'(by omega)) : palB (tx s) = true := by
  unfold palB
  rw [decide_eq_true_eq]
  apply List.ext_getElem?
  intro j
  by_cases hj : j < s.size
  · rw [List.getElem?_reverse (by rw [tx_len]; exact hj), tx_len, List.getElem?_eq_getElem (by rw [tx_len]; exact hj), List.getElem?_eq_getElem (by rw [tx_len]; omega)]
    exact congrArg some (h j hj)
  · rw [List.getElem?_eq_none (by rw [tx_len]; omega), List.getElem?_eq_none (by rw [List.length_reverse, tx_len]; omega)]

set_option maxRecDepth 1000000 in
set_option maxHeartbeats 1000000 in
theorem l8Turned_any (s : ByteArray) (w : World) (hs : s.size ≤ 1000000) :
    Calls Try.prog 45 #[.string s] w fun e w' => e = .returned (.bool (palB (tx s))) ∧ Below w.heap.size w w' := by
  go_enter Try.func45, Try.ntmps45
  go_wp2
  go_loopw [3] (fun i wr => ∃ k q : Nat, k ≤ s.size ∧ i = .int .i64 k ∧ Hid (∀ j (hj : j < s.size), j < k → s[j] = s[s.size - 1 - j]'(by omega)) ∧ wr = w.drewN q) (fun i _ => s.size - (intOf i).toNat)
  case atStart => exact ⟨0, 0, Nat.zero_le _, rfl, Lib.hid (fun j hj h => by omega), rfl⟩
  case round =>
    obtain ⟨k, q, hk, rfl, HE, rfl⟩ := hrel
    have hi0 : (0 : Int) ≤ (k : Int) := by omega
    by_cases h1 : k < s.size
    · have hi1 : (k : Int) < (s.size : Int) := by omega
      have hw1 : IntKind.i64.wrap ((s.size : Int) - 1) = (s.size : Int) - 1 := IntWalk.i64_in _ (by omega)
      obtain ⟨j, hj⟩ : ∃ j, s.size - 1 - k = j := ⟨_, rfl⟩
      have hjz : (s.size : Int) - 1 - (k : Int) = (j : Int) := by omega
      have hjw : IntKind.i64.wrap (j : Int) = (j : Int) := IntWalk.i64_in _ (by omega)
      have hi2 : (0 : Int) ≤ (j : Int) := by omega
      have hi3 : (j : Int) < (s.size : Int) := by omega
      have h2 : j < s.size := by omega
      have HJ := Lib.hid hj
      clear hj
      by_cases he : s[k] = s[j]
      · have hq : ((s[k].toNat : Int) != (s[j].toNat : Int)) = false := by rw [← he]; simp
        have HN : Hid (∀ j (hj : j < s.size), j < k + 1 → s[j] = s[s.size - 1 - j]'(by omega)) := Lib.hid (fun i hi h => by
          by_cases e : i = k
          · subst e
            have := HJ.out
            subst this
            exact he
          · exact HE.out i hi (by omega))
        clear he
        go_wp2
        go_quiet (fail)
        go_wp2
        go_roundw
        case rel => exact ⟨k + 1, q + nq, by omega, by go_num, HN, by simp⟩
        case measure => simp [intOf]; omega
      · have hq : ((s[k].toNat : Int) != (s[j].toNat : Int)) = true := by
          simp only [bne_iff_ne, ne_eq]
          intro e
          exact he (UInt8.toNat_inj.1 (by omega))
        have HR : Hid (palB (tx s) = false) := Lib.hid (pal_no h1 (by have := HJ.out; subst this; exact he))
        clear he
        go_wp2
        go_quiet (fail)
        go_wp2
        go_ret
        exact ⟨ret_bool HR.out.symm, by first | exact below_drewN (Below.refl _ _) _ | exact below_drewN (below_drewN (Below.refl _ _) _) _⟩
    · have HR := Lib.hid (pal_yes (s := s) (fun j hj => HE.out j hj (by omega)))
      go_wp2
      go_ret
      exact ⟨ret_bool HR.out.symm, below_drewN (Below.refl _ _) _⟩

set_option maxRecDepth 1000000 in
set_option maxHeartbeats 1000000 in
theorem turns1_any (s : ByteArray) (w : World) (hs : s.size ≤ 100) :
    Calls Try.prog 46 #[.string s] w fun e w' => e = .returned (.bool (palB (tx s))) ∧ Below w.heap.size w w' := by
  have cT := Lib.hid (turned_any s w hs)
  have hq : (s.toList == (bx (tx s).reverse).toList) = palB (tx s) := by
    rw [str_eq_list]
    unfold palB
    exact decide_eq_decide.2 ⟨fun e => by have := congrArg tx e; rwa [tx_bx] at this, fun e => tx_inj (by rw [tx_bx]; exact e)⟩
  obtain ⟨b, hb⟩ : ∃ b, palB (tx s) = b := ⟨_, rfl⟩
  obtain ⟨r, hr⟩ : ∃ r, bx (tx s).reverse = r := ⟨_, rfl⟩
  rw [hr] at hq cT
  rw [hb] at hq ⊢
  clear hb hr
  go_enter Try.func46, Try.ntmps46
  go_wp2_with fail
  refine cT.out.mono ?_
  rintro e w2 ⟨rfl, hb2⟩
  have HB := Lib.hid hb2
  clear hb2
  go_wp2
  go_ret
  exact ⟨rfl, HB.out⟩

end Go.Proofs.Ytifkggapdaflmab
