/-
  Squares, and what turns back: the program's and the reference's tests.
-/
import Derived.Test.YtifkggapdaflmabParts8
import Derived.Test.YtifkggapdaflmabPrt2
import Derived.Deep.QuietTactic
import Derived.BigQuiet
namespace Go.Proofs.Ytifkggapdaflmab
open Go.RowKit
set_option linter.unusedVariables false

theorem sqr_eq (s : ByteArray) : ((s.extract 0 (s.size / 2)).toList == (s.extract (s.size / 2) s.size).toList) = sqrB (tx s) := by
  rw [str_eq_list]
  unfold sqrB
  refine decide_eq_decide.2 ?_
  rw [tx_len]
  constructor
  · intro e
    have h := congrArg tx e
    rw [tx_sub, tx_sub, List.drop_zero, Nat.sub_zero, List.take_of_length_le (l := (tx s).drop (s.size / 2)) (by rw [List.length_drop, tx_len]; omega)] at h
    exact h
  · intro e
    apply tx_inj
    rw [tx_sub, tx_sub, List.drop_zero, Nat.sub_zero, List.take_of_length_le (l := (tx s).drop (s.size / 2)) (by rw [List.length_drop, tx_len]; omega)]
    exact e

set_option maxRecDepth 1000000 in
set_option maxHeartbeats 1000000 in
theorem isSquare_any (s : ByteArray) (w : World) (hs : s.size ≤ 1000000) :
    Calls Try.prog 43 #[.string s] w fun e w' => e = .returned (.bool (sqrB (tx s))) ∧ Below w.heap.size w w' := by
  have hq := sqr_eq s
  obtain ⟨h, hh⟩ : ∃ h, s.size / 2 = h := ⟨_, rfl⟩
  have h0 : ((s.size : Int) / 2) = (h : Int) := by omega
  rw [hh] at hq
  have h1 : (0 : Int) ≤ (h : Int) := by omega
  have h2 : (h : Int) ≤ (s.size : Int) := by omega
  obtain ⟨b, hb⟩ : ∃ b, sqrB (tx s) = b := ⟨_, rfl⟩
  rw [hb] at hq ⊢
  clear hh hb
  go_enter Try.func43, Try.ntmps43
  go_wp2
  go_quiet (fail)
  go_wp2
  go_ret
  exact ⟨rfl, below_drewN (Below.refl _ _) _⟩

end Go.Proofs.Ytifkggapdaflmab
