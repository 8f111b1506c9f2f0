/-
  The reference's lists of texts: place.
-/
import Derived.Test.YtfehfjnmkaifbabWordS
import Derived.Test.YtfehfjnmkaifbabHas2
namespace Go.Proofs.Ytfehfjnmkaifbab
open Go.RowKit
set_option linter.unusedVariables false

/-- the place of a text, or -1 -/
def plc (xs : List Txt) (x : Txt) : Int := if x ∈ xs then (xs.idxOf x : Int) else -1

theorem idx_first : ∀ {xs : List Txt} {x : Txt} {k : Nat}, xs[k]? = some x → x ∉ xs.take k → xs.idxOf x = k
  | [], _, _, h, _ => by simp at h
  | y :: r, x, 0, h, _ => by
    obtain rfl : y = x := by simpa using h
    simp
  | y :: r, x, k + 1, h, hn => by
    rw [List.take_succ_cons, List.mem_cons] at hn
    have hne : ¬ y = x := fun e => hn (.inl e.symm)
    have := idx_first (xs := r) (x := x) (k := k) (by simpa using h) (fun h => hn (.inr h))
    rw [List.idxOf_cons, this]
    have : (y == x) = false := by simpa using hne
    rw [this]; rfl

theorem plc_at {xs : List Txt} {x : Txt} {k : Nat} (h : xs[k]? = some x) (hn : x ∉ xs.take k) : plc xs x = (k : Int) := by
  unfold plc
  rw [if_pos (at_mem h), idx_first h hn]

set_option maxRecDepth 1000000 in
set_option maxHeartbeats 400000 in
theorem l2Place_any (B : Nat) (a : Option Addr) (n c : Nat) (xs : List Txt) (s : ByteArray) (w : World) (hB : B ≤ w.heap.size) (h : Wds B w a n c xs) (hs : s.size ≤ 9223372036854775807) :
    Calls Try.prog 82 #[.slice a n c, .string s] w fun e w' => e = .returned (.int .i64 (plc xs (tx s))) ∧ w = w' := by
  have L := Lib.hid h.len
  have C := h.sl.cap
  have T := h.sl.top
  have H := Lib.hid h
  clear h
  go_enter Try.func82, Try.ntmps82
  go_wp2
  go_loop [5] (fun i => ∃ k : Nat, k ≤ n ∧ i = .int .i64 k ∧ Hid (tx s ∉ xs.take k)) (fun i => n - (intOf i).toNat)
  case atStart => exact ⟨0, Nat.zero_le _, rfl, Lib.hid (by simp)⟩
  case round =>
    obtain ⟨k, hk, rfl, HN⟩ := hrel
    by_cases hlt : k < n
    · obtain ⟨b, o, t, rfl, hbB, ht, htz, hc⟩ := H.out.elem k hlt
      have HT := Lib.hid ht
      clear ht
      by_cases hst : t = s
      · subst hst
        have hq : (t.toList == t.toList) = true := by simp
        have HM := Lib.hid (plc_at HT.out HN.out)
        go_wp2
        go_ret
        exact ⟨ret_num HM.out.symm, rfl⟩
      · have hq : (t.toList == s.toList) = false := by rw [str_eq_list]; simp [hst]
        have HN2 : Hid (tx s ∉ xs.take (k + 1)) := Lib.hid (by
          obtain ⟨hk', e⟩ := List.getElem?_eq_some_iff.1 HT.out
          rw [List.take_succ_eq_append_getElem hk', List.mem_append, List.mem_singleton, e]
          rintro (h | h)
          · exact HN.out h
          · exact hst (tx_inj h.symm))
        go_wp2
        go_round
        case rel => exact ⟨k + 1, by omega, by go_num, HN2⟩
        case measure => simp [intOf]; omega
    · have HM : Hid (plc xs (tx s) = -1) := Lib.hid (by
        have := HN.out
        rw [List.take_of_length_le (by have := L.out; omega)] at this
        unfold plc; rw [if_neg this])
      go_wp2
      go_ret
      exact ⟨ret_num HM.out.symm, rfl⟩

end Go.Proofs.Ytfehfjnmkaifbab
