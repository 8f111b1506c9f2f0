/-
  Whether a text begins with another: the reference's test.
-/
import Derived.Test.YtibdfhhbkbncgaaWordsN
namespace Go.Proofs.Ytibdfhhbkbncgaa
open Go.RowKit
set_option linter.unusedVariables false

theorem l2Begins_any (s p : ByteArray) (r : Bool) (hr : r = true ↔ tx p <+: tx s) (w : World) (hs : s.size ≤ 100) (hp : p.size ≤ 100) :
    Calls Try.prog 55 #[.string s, .string p] w fun e w' => e = .returned (.bool r) ∧ w = w' := by
  by_cases hl : p.size ≤ s.size
  · have HX : Hid (((s.extract 0 p.size).toList == p.toList) = r) := Lib.hid (by
      rw [str_eq_list, Bool.eq_iff_iff, decide_eq_true_eq, hr, List.prefix_iff_eq_take]
      constructor
      · intro h
        have := congrArg tx h
        rw [tx_extract] at this
        rw [tx_len]; exact this.symm
      · intro h
        apply tx_inj
        rw [tx_extract, ← tx_len p]; exact h.symm)
    clear hr
    go_enter Try.func55, Try.ntmps55
    go_wp2
    go_ret
    exact ⟨ret_bool HX.out, rfl⟩
  · have HX : Hid (r = false) := Lib.hid (by
      cases r with
      | false => rfl
      | true =>
        have := (hr.1 rfl).length_le
        rw [tx_len, tx_len] at this
        omega)
    clear hr
    go_enter Try.func55, Try.ntmps55
    go_wp2
    go_ret
    exact ⟨ret_bool HX.out.symm, rfl⟩

end Go.Proofs.Ytibdfhhbkbncgaa
