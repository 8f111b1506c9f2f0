/-
  The reference's lists of texts: has.
-/
import Derived.Test.YtfehfjnmkaifbabPutW
namespace Go.Proofs.Ytfehfjnmkaifbab
open Go.RowKit
set_option linter.unusedVariables false

set_option maxRecDepth 1000000 in
set_option maxHeartbeats 400000 in
theorem l2Has_any (B : Nat) (a : Option Addr) (n c : Nat) (xs : List Txt) (s : ByteArray) (w : World) (hB : B ≤ w.heap.size) (h : Wds B w a n c xs) (hs : s.size ≤ 9223372036854775807) :
    Calls Try.prog 81 #[.slice a n c, .string s] w fun e w' => e = .returned (.bool (decide (tx s ∈ xs))) ∧ w = w' := by
  have L := Lib.hid h.len
  have C := h.sl.cap
  have T := h.sl.top
  have H := Lib.hid h
  clear h
  go_enter Try.func81, Try.ntmps81
  go_wp2
  go_loop [5] (fun i => ∃ k : Nat, k ≤ n ∧ i = .int .i64 k ∧ Hid (tx s ∉ xs.take k)) (fun i => n - (intOf i).toNat)
  case atStart => exact ⟨0, Nat.zero_le _, rfl, Lib.hid (by simp)⟩
  case round =>
    obtain ⟨k, hk, rfl, HN⟩ := hrel
    by_cases hlt : k < n
    · obtain ⟨b, o, t, rfl, hbB, ht, htz, hc⟩ := H.out.elem k hlt
      have HT := Lib.hid ht
      clear ht
      by_cases hst : t = s
      · subst hst
        have hq : (t.toList == t.toList) = true := by simp
        have HM : Hid (tx t ∈ xs) := Lib.hid (at_mem HT.out)
        go_wp2
        go_ret
        exact ⟨ret_bool (by rw [decide_eq_true HM.out]), rfl⟩
      · have hq : (t.toList == s.toList) = false := by rw [str_eq_list]; simp [hst]
        have HN2 : Hid (tx s ∉ xs.take (k + 1)) := Lib.hid (by
          obtain ⟨hk', e⟩ := List.getElem?_eq_some_iff.1 HT.out
          rw [List.take_succ_eq_append_getElem hk', List.mem_append, List.mem_singleton, e]
          rintro (h | h)
          · exact HN.out h
          · exact hst (tx_inj h.symm))
        go_wp2
        go_round
        case rel => exact ⟨k + 1, by omega, by go_num, HN2⟩
        case measure => simp [intOf]; omega
    · have HM : Hid (tx s ∉ xs) := Lib.hid (by have := HN.out; rwa [List.take_of_length_le (by have := L.out; omega)] at this)
      go_wp2
      go_ret
      exact ⟨ret_bool (by rw [decide_eq_false HM.out]), rfl⟩

end Go.Proofs.Ytfehfjnmkaifbab
