/-
  What is a word: the contract of the reference's function.
-/
import Derived.Test.YtfehfjnmkaifbabWordM
namespace Go.Proofs.Ytfehfjnmkaifbab
open Go.RowKit
set_option linter.unusedVariables false

set_option maxRecDepth 1000000 in
set_option maxHeartbeats 400000 in
theorem l2Word_any (s : ByteArray) (w : World) (hs : s.size ≤ 9223372036854775807) :
    Calls Try.prog 49 #[.string s] w fun e w' => e = .returned (.bool (okW s)) ∧ w = w' := by
  go_enter Try.func49, Try.ntmps49
  go_wp2
  go_loop [3] (fun i => ∃ k : Nat, k ≤ s.size ∧ k ≤ 13 ∧ i = .int .i64 k ∧ Hid (LowTo s k)) (fun i => 14 - (intOf i).toNat)
  case atStart => exact ⟨0, Nat.zero_le _, by omega, rfl, Lib.hid fun j _ h => by omega⟩
  case round =>
    obtain ⟨k, hk, hk13, rfl, HL⟩ := hrel
    by_cases hlt : k < s.size
    · by_cases h12 : k ≤ 12
      · by_cases h1 : 97 ≤ s[k].toNat
        · by_cases h2 : s[k].toNat ≤ 122
          · have HN := Lib.hid (HL.out.succ hlt h1 h2)
            go_wp2
            go_round
            case rel => exact ⟨k + 1, by omega, by omega, by go_num, HN⟩
            case measure => simp [intOf]; omega
          · have HF := Lib.hid (okW_low hlt (fun h => h2 h.2))
            go_wp2
            go_ret
            exact ⟨ret_bool HF.out.symm, rfl⟩
        · have HF := Lib.hid (okW_low hlt (fun h => h1 h.1))
          go_wp2
          go_ret
          exact ⟨ret_bool HF.out.symm, rfl⟩
      · have HF := Lib.hid (okW_long (show 12 < s.size by omega))
        have h13 : ¬ s.size ≤ 12 := by omega
        go_wp2
        go_ret
        exact ⟨ret_bool (by rw [HF.out]; simp; omega), rfl⟩
    · by_cases h12 : s.size ≤ 12
      · have e : k = s.size := by omega
        subst e
        have HT := Lib.hid (okW_yes h12 HL.out)
        go_wp2
        go_ret
        exact ⟨ret_bool (by rw [HT.out]; simp; omega), rfl⟩
      · have HF := Lib.hid (okW_long (show 12 < s.size by omega))
        go_wp2
        go_ret
        exact ⟨ret_bool (by rw [HF.out]; simp; omega), rfl⟩

end Go.Proofs.Ytfehfjnmkaifbab
