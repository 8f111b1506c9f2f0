/-
  The laws' copy of a list of strings, as a row that the call owns.
-/
import Derived.Test.YtmgieahachphmaaStrsWalks
namespace Go.Proofs.Ytmgieahachphmaa
open Go.RowKit
set_option linter.unusedVariables false

set_option maxHeartbeats 400000 in
theorem toStringS_own (B : Nat) (a : Option Addr) (n c : Nat) (ss : List ByteArray) (w : World) (hB : B ≤ w.heap.size) (h : Strs B w a n c ss) (hn : n ≤ 1048576) :
    Calls Try.prog 22 #[.slice a n c] w fun e w' => e = .returned (.slice (some ⟨w.heap.size, 0, none⟩) n n) ∧ w'.ownsRow w.heap.size 9 1 (.slice (some ⟨w.heap.size, 0, none⟩) n n) n (ss.map Value.string) ∧ w.heap.size < w'.heap.size ∧ Below w.heap.size w w' := by
  have L := Lib.hid h.len
  have C := h.sl.cap
  have T := h.sl.top
  have H := Lib.hid h
  clear h
  obtain ⟨i0, hi, hz0, hz1, hz2⟩ := info_parts infoS
  go_enter Try.func22, Try.ntmps22
  go_wp2_with (first | (at_make; refine wpList_make_full _ rfl _ _ 22 rfl w.heap.size 9 i0 (.string ByteArray.empty) 1 Try.underlying22 hi hz0 hz1 .i64 .i64 _ _ n rfl rfl rfl rfl (by rw [hz2]; omega) (by unfold maxLen; omega) (Nat.le_refl _) ?_; intro w1 hown hgrow))
  have hlt1 : w.heap.size < w1.heap.size := own_lt hown
  have hown0 : w1.ownsRow w.heap.size 9 1 (.slice (some ⟨w.heap.size, 0, none⟩) n n) n (copied ss n 0) := by
    rw [copied_zero]
    have e := toList_madeCells_one (.string ByteArray.empty) n
    rw [Nat.mul_one] at hown
    exact e ▸ hown
  have hb1 : Below w.heap.size w w1 := (Below.refl _ _).grown hgrow (Nat.le_refl _) (fun k e => by cases e)
  clear hown hgrow
  go_loopw [4] (fun i wr => ∃ k : Nat, k ≤ n ∧ i = .int .i64 k ∧ wr.ownsRow w.heap.size 9 1 (.slice (some ⟨w.heap.size, 0, none⟩) n n) n (copied ss n k) ∧ Below w.heap.size w wr ∧ w.heap.size < wr.heap.size) (fun i _ => n - (intOf i).toNat)
  case atStart => exact ⟨0, Nat.zero_le _, rfl, hown0, hb1, hlt1⟩
  case round =>
    clear hown0 hb1 hlt1
    obtain ⟨k, hk, rfl, hown, hb, hlt2⟩ := hrel
    by_cases hlt : k < n
    · obtain ⟨b, o, s, rfl, hbB, hs, hsz, hc⟩ := (H.out.keep (hb.mono hB)).elem k hlt
      have HS := Lib.hid hs
      clear hs
      have hf := hown.frozenAt k
      have hd := hown.cellAt k (by omega)
      rw [copied_at (by have := L.out; omega) hlt] at hd
      have hst := (hown.stored k (.string s)).1
      rw [copied_succ L.out HS.out] at hst
      have HST := Lib.hid hst
      clear hst
      have HO := Lib.hid hown
      clear hown
      go_wp2
      go_roundw
      case rel => exact ⟨k + 1, by omega, by go_num, HST.out, hb.setCell (p := ⟨w.heap.size, k, none⟩) (Nat.le_refl _) _, by simpa using hlt2⟩
      case measure => simp [intOf]; omega
    · have e : k = n := by omega
      subst e
      rw [copied_all L.out] at hown
      have HO := Lib.hid hown
      clear hown
      go_wp2
      go_ret
      exact ⟨rfl, HO.out, hlt2, hb⟩

end Go.Proofs.Ytmgieahachphmaa
