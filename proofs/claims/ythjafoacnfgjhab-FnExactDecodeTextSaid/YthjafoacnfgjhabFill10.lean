/-
  The fill of lengths: the reference's and the program's functions.
-/
import Derived.Test.YthjafoacnfgjhabC10M
import Derived.Test.YthjafoacnfgjhabInts
import Derived.IntWalk
namespace Go.Proofs.Ythjafoacnfgjhab
open Go.RowKit
set_option linter.unusedVariables false

theorem l1In_any (x lo hi : Int) (w : World) : Calls Try.prog 39 #[.int .i64 x, .int .i64 lo, .int .i64 hi] w fun e w' => e = .returned (.bool (decide (lo ≤ x ∧ x ≤ hi))) ∧ w = w' := by
  by_cases h : lo ≤ x
  · by_cases h2 : x ≤ hi
    · have hd : decide (lo ≤ x ∧ x ≤ hi) = true := by simp [h, h2]
      rw [hd]
      go_enter Try.func39, Try.ntmps39
      go_wp2
      go_ret
      exact ⟨ret_bool (by first | rfl | (simp; done) | (simp; omega)), rfl⟩
    · have hd : decide (lo ≤ x ∧ x ≤ hi) = false := by simp; omega
      rw [hd]
      go_enter Try.func39, Try.ntmps39
      go_wp2
      go_ret
      exact ⟨ret_bool (by first | rfl | (simp; done) | (simp; omega)), rfl⟩
  · have hd : decide (lo ≤ x ∧ x ≤ hi) = false := by simp; omega
    rw [hd]
    go_enter Try.func39, Try.ntmps39
    go_wp2
    go_ret
    exact ⟨ret_bool (by first | rfl | (simp; done) | (simp; omega)), rfl⟩

theorem pw_wrap (x : Int) (h1 : 1 ≤ x) (h2 : x ≤ 14) : wrap64 (2 ^ (14 - x).toNat) = pw x := by
  have hb := pw_bd x h1 h2
  have e : (2 : Int) ^ (14 - x).toNat = pw x := by
    unfold pw
    rw [show (14 - x).toNat = 14 - x.toNat by omega]
    simp
  rw [e]
  exact IntWalk.wrap64_in _ (by omega)

theorem fillOfLength_any (x : Int) (w : World) (h1 : 1 ≤ x) (h2 : x ≤ 14) : Calls Try.prog 37 #[.int .i64 x] w fun e w' => e = .returned (.int .i64 (pw x)) ∧ w = w' := by
  have HP := Lib.hid (pw_wrap x h1 h2)
  go_enter Try.func37, Try.ntmps37
  go_wp2
  go_ret
  exact ⟨ret_num HP.out, rfl⟩

set_option maxHeartbeats 400000 in
theorem l10Numbers_any (B : Nat) (a : Option Addr) (n c : Nat) (l : List Int) (most : Int) (w : World) (hB : B ≤ w.heap.size) (h : Ints B w a n c l) :
    Calls Try.prog 47 #[.slice a n c, .int .i64 most] w fun e w' => e = .returned (.bool (nOk l most)) ∧ w = w' := by
  have L := Lib.hid h.len
  have C := h.sl.cap
  have T := h.sl.top
  have H := Lib.hid h
  clear h
  go_enter Try.func47, Try.ntmps47
  go_wp2
  go_loop [5] (fun i => ∃ k : Nat, k ≤ n ∧ k ≤ 13 ∧ i = .int .i64 k ∧ Hid (NTo l most k)) (fun i => n - (intOf i).toNat)
  case atStart => exact ⟨0, Nat.zero_le _, by omega, rfl, Lib.hid (NTo.zero _ _)⟩
  case round =>
    obtain ⟨k, hk, hk13, rfl, HN⟩ := hrel
    by_cases hlt : k < n ∧ k ≤ 12
    · obtain ⟨hlt, hle⟩ := hlt
      obtain ⟨b, o, z, rfl, hbB, hs, hz, hc⟩ := H.out.elem k hlt
      have HS := Lib.hid hs
      clear hs
      by_cases hr : 1 ≤ z ∧ z ≤ most
      · have cI := Lib.hid (l1In_any z 1 most w)
        rw [decide_eq_true hr] at cI
        have HN2 := Lib.hid (HN.out.succ HS.out hr)
        clear hr
        go_wp2_with (go_at_call 39; refine cI.out.mono ?_; rintro e w' ⟨rfl, rfl⟩)
        go_round
        case rel => exact ⟨k + 1, by omega, by omega, by go_num, HN2⟩
        case measure => simp [intOf]; omega
      · have cI := Lib.hid (l1In_any z 1 most w)
        rw [decide_eq_false hr] at cI
        have HF := Lib.hid (nOk_bad HS.out hr)
        clear hr
        go_wp2_with (go_at_call 39; refine cI.out.mono ?_; rintro e w' ⟨rfl, rfl⟩)
        go_ret
        exact ⟨ret_bool HF.out.symm, rfl⟩
    · have HD : Hid (decide ((1 : Int) ≤ (n : Int) ∧ (n : Int) ≤ 12) = nOk l most) := Lib.hid (by
        by_cases hd : 1 ≤ n ∧ n ≤ 12
        · rw [HN.out.ok (by have := L.out; omega) (by have := L.out; omega)]
          simp; omega
        · rw [nOk_not (by have := L.out; omega)]
          simp; omega)
      have cI0 := l1In_any (n : Int) 1 12 w
      rw [HD.out] at cI0
      have cI := Lib.hid cI0
      clear cI0
      by_cases hlt2 : k < n
      · have hle : ¬ k ≤ 12 := fun h => hlt ⟨hlt2, h⟩
        clear hlt
        go_wp2_with (go_at_call 39; refine cI.out.mono ?_; rintro e w' ⟨rfl, rfl⟩)
        go_ret
        exact ⟨rfl, rfl⟩
      · clear hlt
        go_wp2_with (go_at_call 39; refine cI.out.mono ?_; rintro e w' ⟨rfl, rfl⟩)
        go_ret
        exact ⟨rfl, rfl⟩

set_option maxHeartbeats 400000 in
theorem l10Fill_any (B : Nat) (a : Option Addr) (n c : Nat) (l : List Int) (w : World) (hB : B ≤ w.heap.size) (h : Ints B w a n c l) (ho : nOk l 14 = true) :
    Calls Try.prog 60 #[.slice a n c] w fun e w' => e = .returned (.int .i64 (fillZ l)) ∧ w = w' := by
  have L := Lib.hid h.len
  have C := h.sl.cap
  have T := h.sl.top
  have H := Lib.hid h
  have HK := Lib.hid ho
  clear h ho
  go_enter Try.func60, Try.ntmps60
  go_wp2
  go_loop [3, 4] (fun s i => ∃ (k : Nat) (q : Int), k ≤ n ∧ i = .int .i64 k ∧ s = .int .i64 q ∧ 0 ≤ q ∧ q ≤ 98304 ∧ Hid (fillZ (l.take k) = q)) (fun _ i => n - (intOf i).toNat)
  case atStart => exact ⟨0, 0, Nat.zero_le _, rfl, rfl, by omega, by omega, Lib.hid rfl⟩
  case round =>
    obtain ⟨k, q, hk, rfl, rfl, hq0, hq1, HQ⟩ := hrel
    by_cases hlt : k < n
    · obtain ⟨b, o, z, rfl, hbB, hs, _, hc⟩ := H.out.elem k hlt
      have HS := Lib.hid hs
      obtain ⟨hz1, hz2⟩ := nOk_at HK.out hs
      clear hs
      have hw := pw_wrap z hz1 hz2
      have hp := pw_bd z hz1 hz2
      have hbd := fillZ_take_bd HK.out (k + 1)
      rw [fillZ_succ HS.out, HQ.out] at hbd
      go_wp2
      go_round
      case rel => exact ⟨k + 1, q + pw z, by omega, by go_num, rfl, by omega, by omega, Lib.hid (by rw [fillZ_succ HS.out, HQ.out])⟩
      case measure => simp [intOf]; omega
    · have HE : Hid (q = fillZ l) := Lib.hid (by rw [← HQ.out, List.take_of_length_le (by have := L.out; omega)])
      go_wp2
      go_ret
      exact ⟨ret_num HE.out, rfl⟩

set_option maxHeartbeats 400000 in
theorem fillOfAll_any (B : Nat) (a : Option Addr) (n c : Nat) (l : List Int) (w : World) (hB : B ≤ w.heap.size) (h : Ints B w a n c l) (ho : nOk l 14 = true) :
    Calls Try.prog 80 #[.slice a n c] w fun e w' => e = .returned (.int .i64 (fillZ l)) ∧ w = w' := by
  have L := Lib.hid h.len
  have C := h.sl.cap
  have T := h.sl.top
  have H := Lib.hid h
  have HK := Lib.hid ho
  clear h ho
  go_enter Try.func80, Try.ntmps80
  go_wp2
  go_loop [3, 8] (fun s i => ∃ (k : Nat) (q : Int), k ≤ n ∧ i = .int .i64 k ∧ s = .int .i64 q ∧ 0 ≤ q ∧ q ≤ 98304 ∧ Hid (fillZ (l.take k) = q)) (fun _ i => n - (intOf i).toNat)
  case atStart => exact ⟨0, 0, Nat.zero_le _, rfl, rfl, by omega, by omega, Lib.hid rfl⟩
  case round =>
    obtain ⟨k, q, hk, rfl, rfl, hq0, hq1, HQ⟩ := hrel
    by_cases hlt : k < n
    · obtain ⟨b, o, z, rfl, hbB, hs, _, hc⟩ := H.out.elem k hlt
      have HS := Lib.hid hs
      obtain ⟨hz1, hz2⟩ := nOk_at HK.out hs
      clear hs
      have cF := Lib.hid (fillOfLength_any z w hz1 hz2)
      have hp := pw_bd z hz1 hz2
      have hbd := fillZ_take_bd HK.out (k + 1)
      rw [fillZ_succ HS.out, HQ.out] at hbd
      go_wp2_with (go_at_call 37; refine cF.out.mono ?_; rintro e w' ⟨rfl, rfl⟩)
      go_round
      case rel => exact ⟨k + 1, q + pw z, by omega, by go_num, rfl, by omega, by omega, Lib.hid (by rw [fillZ_succ HS.out, HQ.out])⟩
      case measure => simp [intOf]; omega
    · have HE : Hid (q = fillZ l) := Lib.hid (by rw [← HQ.out, List.take_of_length_le (by have := L.out; omega)])
      go_wp2
      go_ret
      exact ⟨ret_num HE.out, rfl⟩

end Go.Proofs.Ythjafoacnfgjhab
